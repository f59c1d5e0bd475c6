import Derived.Test.YtcfhfllcdliaoaaGreatDoorHB
import Derived.Maps.OwnSet
import Derived.StringKeys
import Derived.Test.YtcfhfllcdliaoaaGreatDoorC10
import Derived.Test.YtcfhfllcdliaoaaGreatDoorH6
import Derived.Test.YtcfhfllcdliaoaaGreatDoorH7
import Derived.Test.YtcfhfllcdliaoaaGreatDoorH8
import Derived.Test.YtcfhfllcdliaoaaGreatDoorQ8
import Derived.Deep.RegionHeld3
import Derived.Defers
import Derived.Recover
import Derived.Laws.Pointers
import Derived.Test.YtcfhfllcdliaoaaGreatDoorHA
/- The program's tables of commands: maps from names to methods, and the look-up. -/
namespace Go.Proofs.YtcfhfllcdliaoaaGreatDoor
open Go.RowKit Go.Maps Go.WideMaps
set_option linter.unusedVariables false
set_option linter.unusedSimpArgs false
attribute [local irreducible] octS cN octF syn

/-! ### Functions as elements -/
/-- How a function of the program reads in a table: by its number. -/
def fnElem : Value → Option (DataW Unit × List MemPlace)
  | .func (.func k) f c => if f.size = 0 ∧ c.size = 0 then some (.lit (.int .i64 (k : Int)), []) else none
  | .nilFunc => some (.lit (.int .i64 (-1)), [])
  | _ => none
theorem fnElem_mk (k : Nat) : fnElem (.func (.func k) #[] #[]) = some (.lit (.int .i64 (k : Int)), []) := rfl
theorem fnElem_inv {v : Value} {k : Nat} {ps : List MemPlace} (h : fnElem v = some (.lit (.int .i64 (k : Int)), ps)) : v = .func (.func k) #[] #[] := by
  unfold fnElem at h
  split at h
  · rename_i j f c
    split at h
    · rename_i hs
      injection h with h
      injection h with h _
      injection h with h
      injection h with _ h
      obtain rfl : j = k := Int.ofNat.inj h
      rw [Array.eq_empty_of_size_eq_zero hs.1, Array.eq_empty_of_size_eq_zero hs.2]
    · exact absurd h (by simp)
  · simp only [Option.some.injEq, Prod.mk.injEq, DataW.lit.injEq, Lit.int.injEq, true_and] at h
    omega
  · exact absurd h (by simp)
/-- 'm[k] = v' of a literal, at the operation (as the library's law for mapUpdate). -/
theorem wpList_insert_own {H : Type} {P : Program} (w : World) {ops : Array Oper} {rest : List Oper} {o : Oper} {a : Act} {Q : Exit → Act → World → Prop}
    (hg : o.guard = none) (m x v : Operand) (t : TypeId) (hop : o.op = Op.insert t m x v)
    (k e : TypeId) (K : Keyed P k) (ht : P.underlying t = some (.map k e)) (R : Value → Option (DataW H × List MemPlace)) (b n : Nat) (D : DataW H)
    (hm : a.eval m = .map (some b)) (hown : w.ownsMap P k R b n D) (hn : n < maxLen) (key val : Value) (kl : Lit) (hx : a.eval x = key) (hv : a.eval v = val) (hkey : keyOf P k key = some kl)
    (d : DataW H) (ps : List MemPlace) (hval : R val = some (d, ps))
    (hK : ∀ w', w'.ownsMap P k R b (n + 1) (D.put kl d) → w.grownBy w' (some b) → wpList P ops Q rest (a.put o.dst undef) w') :
    wpList P ops Q (o :: rest) a w := by
  refine wpList_plain hg fun K' hK' => ?_
  obtain ⟨w', hrun, r1, r2⟩ := hown.update K ht hn hkey hval
  unfold Oper.wp
  simp [execOp, hop, hm, hx, hv, hrun, Result.andThen]
  exact hK' _ _ (hK w' r1 r2)
theorem maxLen_gt {n : Nat} (h : n < 100) : n < maxLen := by unfold maxLen; omega
theorem strKeyed : Keyed Tryz.prog 9 := string_keyed Tryz.underlying9
theorem strKey (s : ByteArray) (h : s.size ≤ maxLen) : keyOf Tryz.prog 9 (.string s) = some (.string s.data.toList) := keyOf_string_mk Tryz.underlying9 h
theorem strKeyL (v : List UInt8) (h : v.length ≤ 100) : keyOf Tryz.prog 9 (.string ⟨v.toArray⟩) = some (.string v) := strKey _ (by show v.length ≤ maxLen; unfold maxLen; omega)

/-! ### Tables of names -/
def tabD (L : List (List UInt8 × Nat)) : DataW Unit := L.foldl (fun m p => m.put (.string p.1) (.lit (.int .i64 (p.2 : Int)))) (.map [])
theorem tab_no_gen (u : List UInt8) : ∀ (L : List (List UInt8 × Nat)) (m : DataW Unit), has m (.string u) = false → (∀ p ∈ L, p.1 ≠ u) → has (L.foldl (fun m p => m.put (.string p.1) (.lit (.int .i64 (p.2 : Int)))) m) (.string u) = false
  | [], m, h, _ => h
  | p :: L, m, h, hn => tab_no_gen u L _ (by
      rw [has_put_other (fun e => hn p (List.mem_cons_self ..) (Lit.string.inj e).symm)]
      exact h) (fun q hq => hn q (List.mem_cons_of_mem _ hq))
theorem tab_no {u : List UInt8} {L : List (List UInt8 × Nat)} (h : ∀ p ∈ L, p.1 ≠ u) : has (tabD L) (.string u) = false := tab_no_gen u L _ rfl h
def cmdB : List (List UInt8 × Nat) := [(wShow, 87), (wPlaces, 88), (wWeight, 89), (wScores, 90), (wIn, 91), (wMend, 92), (wNear, 93), (wSextet, 94), (wMeet, 95)]
theorem bare_show : has (tabD cmdB) (.string wShow) = true ∧ (tabD cmdB).atKey (.string wShow) (.lit (.int .i64 (-1))) = .lit (.int .i64 ((87 : Nat) : Int)) := ⟨by kernel_rfl, by kernel_rfl⟩
theorem bare_places : has (tabD cmdB) (.string wPlaces) = true ∧ (tabD cmdB).atKey (.string wPlaces) (.lit (.int .i64 (-1))) = .lit (.int .i64 ((88 : Nat) : Int)) := ⟨by kernel_rfl, by kernel_rfl⟩
theorem bare_weight : has (tabD cmdB) (.string wWeight) = true ∧ (tabD cmdB).atKey (.string wWeight) (.lit (.int .i64 (-1))) = .lit (.int .i64 ((89 : Nat) : Int)) := ⟨by kernel_rfl, by kernel_rfl⟩
theorem bare_scores : has (tabD cmdB) (.string wScores) = true ∧ (tabD cmdB).atKey (.string wScores) (.lit (.int .i64 (-1))) = .lit (.int .i64 ((90 : Nat) : Int)) := ⟨by kernel_rfl, by kernel_rfl⟩
theorem bare_in : has (tabD cmdB) (.string wIn) = true ∧ (tabD cmdB).atKey (.string wIn) (.lit (.int .i64 (-1))) = .lit (.int .i64 ((91 : Nat) : Int)) := ⟨by kernel_rfl, by kernel_rfl⟩
theorem bare_mend : has (tabD cmdB) (.string wMend) = true ∧ (tabD cmdB).atKey (.string wMend) (.lit (.int .i64 (-1))) = .lit (.int .i64 ((92 : Nat) : Int)) := ⟨by kernel_rfl, by kernel_rfl⟩
theorem bare_near : has (tabD cmdB) (.string wNear) = true ∧ (tabD cmdB).atKey (.string wNear) (.lit (.int .i64 (-1))) = .lit (.int .i64 ((93 : Nat) : Int)) := ⟨by kernel_rfl, by kernel_rfl⟩
theorem bare_sextet : has (tabD cmdB) (.string wSextet) = true ∧ (tabD cmdB).atKey (.string wSextet) (.lit (.int .i64 (-1))) = .lit (.int .i64 ((94 : Nat) : Int)) := ⟨by kernel_rfl, by kernel_rfl⟩
theorem bare_meet : has (tabD cmdB) (.string wMeet) = true ∧ (tabD cmdB).atKey (.string wMeet) (.lit (.int .i64 (-1))) = .lit (.int .i64 ((95 : Nat) : Int)) := ⟨by kernel_rfl, by kernel_rfl⟩
set_option maxHeartbeats 2000000 in
set_option maxRecDepth 100000 in
theorem bareCommands_calls (w : World) :
    Calls Tryz.prog 59 #[] w fun e w' => e = .returned (.map (some w.heap.size)) ∧ w'.ownsMap Tryz.prog 9 fnElem w.heap.size 9 (tabD cmdB) ∧ Below w.heap.size w w' := by
  have h0 := World.ownsMap_made w Tryz.prog 9 fnElem
  have b0 := (Below.refl w.heap.size w).alloc (Nat.le_refl _) (.map #[] 0)
  have hmk : ∀ W : World, (Instr.makeMap 86 none).run Tryz.prog W = .ok (.map (some W.heap.size)) (W.alloc (.map #[] 0)) := fun W => rfl
  obtain ⟨w1, r1, h1, g1⟩ := h0.update (t := 86) (e := 84) strKeyed Tryz.underlying86 (maxLen_gt (by omega)) (strKeyL [115, 104, 111, 119] (by decide)) (fnElem_mk 87)
  have b1 := b0.grown g1 (by have := b0.size; omega) (by simp)
  obtain ⟨w2, r2, h2, g2⟩ := h1.update (t := 86) (e := 84) strKeyed Tryz.underlying86 (maxLen_gt (by omega)) (strKeyL [112, 108, 97, 99, 101, 115] (by decide)) (fnElem_mk 88)
  have b2 := b1.grown g2 (by have := b1.size; omega) (by simp)
  obtain ⟨w3, r3, h3, g3⟩ := h2.update (t := 86) (e := 84) strKeyed Tryz.underlying86 (maxLen_gt (by omega)) (strKeyL [119, 101, 105, 103, 104, 116] (by decide)) (fnElem_mk 89)
  have b3 := b2.grown g3 (by have := b2.size; omega) (by simp)
  obtain ⟨w4, r4, h4, g4⟩ := h3.update (t := 86) (e := 84) strKeyed Tryz.underlying86 (maxLen_gt (by omega)) (strKeyL [115, 99, 111, 114, 101, 115] (by decide)) (fnElem_mk 90)
  have b4 := b3.grown g4 (by have := b3.size; omega) (by simp)
  obtain ⟨w5, r5, h5, g5⟩ := h4.update (t := 86) (e := 84) strKeyed Tryz.underlying86 (maxLen_gt (by omega)) (strKeyL [105, 110] (by decide)) (fnElem_mk 91)
  have b5 := b4.grown g5 (by have := b4.size; omega) (by simp)
  obtain ⟨w6, r6, h6, g6⟩ := h5.update (t := 86) (e := 84) strKeyed Tryz.underlying86 (maxLen_gt (by omega)) (strKeyL [109, 101, 110, 100] (by decide)) (fnElem_mk 92)
  have b6 := b5.grown g6 (by have := b5.size; omega) (by simp)
  obtain ⟨w7, r7, h7, g7⟩ := h6.update (t := 86) (e := 84) strKeyed Tryz.underlying86 (maxLen_gt (by omega)) (strKeyL [110, 101, 97, 114] (by decide)) (fnElem_mk 93)
  have b7 := b6.grown g7 (by have := b6.size; omega) (by simp)
  obtain ⟨w8, r8, h8, g8⟩ := h7.update (t := 86) (e := 84) strKeyed Tryz.underlying86 (maxLen_gt (by omega)) (strKeyL [115, 101, 120, 116, 101, 116] (by decide)) (fnElem_mk 94)
  have b8 := b7.grown g8 (by have := b7.size; omega) (by simp)
  obtain ⟨w9, r9, h9, g9⟩ := h8.update (t := 86) (e := 84) strKeyed Tryz.underlying86 (maxLen_gt (by omega)) (strKeyL [109, 101, 101, 116] (by decide)) (fnElem_mk 95)
  have b9 := b8.grown g9 (by have := b8.size; omega) (by simp)
  have HD := Lib.hid h9
  have HB := Lib.hid b9
  clear h9 b9 g9 h8 b8 g8 h7 b7 g7 h6 b6 g6 h5 b5 g5 h4 b4 g4 h3 b3 g3 h2 b2 g2 h1 b1 g1 h0 b0
  go_enter Tryz.func59, Tryz.ntmps59
  go_wp2_with fail
  go_ret
  exact ⟨rfl, HD.out, HB.out⟩
def cmdR : List (List UInt8 × Nat) := [(wSet, 81), (wAdd, 82), (wRead, 83), (wCode, 84), (wOctad, 85), (wLine, 86)]
theorem rest_set : has (tabD cmdR) (.string wSet) = true ∧ (tabD cmdR).atKey (.string wSet) (.lit (.int .i64 (-1))) = .lit (.int .i64 ((81 : Nat) : Int)) := ⟨by kernel_rfl, by kernel_rfl⟩
theorem rest_add : has (tabD cmdR) (.string wAdd) = true ∧ (tabD cmdR).atKey (.string wAdd) (.lit (.int .i64 (-1))) = .lit (.int .i64 ((82 : Nat) : Int)) := ⟨by kernel_rfl, by kernel_rfl⟩
theorem rest_read : has (tabD cmdR) (.string wRead) = true ∧ (tabD cmdR).atKey (.string wRead) (.lit (.int .i64 (-1))) = .lit (.int .i64 ((83 : Nat) : Int)) := ⟨by kernel_rfl, by kernel_rfl⟩
theorem rest_code : has (tabD cmdR) (.string wCode) = true ∧ (tabD cmdR).atKey (.string wCode) (.lit (.int .i64 (-1))) = .lit (.int .i64 ((84 : Nat) : Int)) := ⟨by kernel_rfl, by kernel_rfl⟩
theorem rest_octad : has (tabD cmdR) (.string wOctad) = true ∧ (tabD cmdR).atKey (.string wOctad) (.lit (.int .i64 (-1))) = .lit (.int .i64 ((85 : Nat) : Int)) := ⟨by kernel_rfl, by kernel_rfl⟩
theorem rest_line : has (tabD cmdR) (.string wLine) = true ∧ (tabD cmdR).atKey (.string wLine) (.lit (.int .i64 (-1))) = .lit (.int .i64 ((86 : Nat) : Int)) := ⟨by kernel_rfl, by kernel_rfl⟩
set_option maxHeartbeats 2000000 in
set_option maxRecDepth 100000 in
theorem restCommands_calls (w : World) :
    Calls Tryz.prog 57 #[] w fun e w' => e = .returned (.map (some w.heap.size)) ∧ w'.ownsMap Tryz.prog 9 fnElem w.heap.size 6 (tabD cmdR) ∧ Below w.heap.size w w' := by
  have h0 := World.ownsMap_made w Tryz.prog 9 fnElem
  have b0 := (Below.refl w.heap.size w).alloc (Nat.le_refl _) (.map #[] 0)
  have hmk : ∀ W : World, (Instr.makeMap 82 none).run Tryz.prog W = .ok (.map (some W.heap.size)) (W.alloc (.map #[] 0)) := fun W => rfl
  obtain ⟨w1, r1, h1, g1⟩ := h0.update (t := 82) (e := 80) strKeyed Tryz.underlying82 (maxLen_gt (by omega)) (strKeyL [115, 101, 116] (by decide)) (fnElem_mk 81)
  have b1 := b0.grown g1 (by have := b0.size; omega) (by simp)
  obtain ⟨w2, r2, h2, g2⟩ := h1.update (t := 82) (e := 80) strKeyed Tryz.underlying82 (maxLen_gt (by omega)) (strKeyL [97, 100, 100] (by decide)) (fnElem_mk 82)
  have b2 := b1.grown g2 (by have := b1.size; omega) (by simp)
  obtain ⟨w3, r3, h3, g3⟩ := h2.update (t := 82) (e := 80) strKeyed Tryz.underlying82 (maxLen_gt (by omega)) (strKeyL [114, 101, 97, 100] (by decide)) (fnElem_mk 83)
  have b3 := b2.grown g3 (by have := b2.size; omega) (by simp)
  obtain ⟨w4, r4, h4, g4⟩ := h3.update (t := 82) (e := 80) strKeyed Tryz.underlying82 (maxLen_gt (by omega)) (strKeyL [99, 111, 100, 101] (by decide)) (fnElem_mk 84)
  have b4 := b3.grown g4 (by have := b3.size; omega) (by simp)
  obtain ⟨w5, r5, h5, g5⟩ := h4.update (t := 82) (e := 80) strKeyed Tryz.underlying82 (maxLen_gt (by omega)) (strKeyL [111, 99, 116, 97, 100] (by decide)) (fnElem_mk 85)
  have b5 := b4.grown g5 (by have := b4.size; omega) (by simp)
  obtain ⟨w6, r6, h6, g6⟩ := h5.update (t := 82) (e := 80) strKeyed Tryz.underlying82 (maxLen_gt (by omega)) (strKeyL [108, 105, 110, 101] (by decide)) (fnElem_mk 86)
  have b6 := b5.grown g6 (by have := b5.size; omega) (by simp)
  have HD := Lib.hid h6
  have HB := Lib.hid b6
  clear h6 b6 g6 h5 b5 g5 h4 b4 g4 h3 b3 g3 h2 b2 g2 h1 b1 g1 h0 b0
  go_enter Tryz.func57, Tryz.ntmps57
  go_wp2_with fail
  go_ret
  exact ⟨rfl, HD.out, HB.out⟩

/-! ### The look-up -/
theorem lookB (u : List UInt8) : (BA u).size ≤ 4096 → keyOf Tryz.prog 9 (.string (BA u)) = some (.string u) := fun h => strKey (BA u) (by unfold maxLen; omega)
theorem zeroB (W : World) : (zeroValue 84).run Tryz.prog W = .ok .nilFunc W := by kernel_rfl
theorem commandB_yes (u : List UInt8) (k b : Nat) (W : World) (hu : (BA u).size ≤ 4096) (hown : W.ownsMap Tryz.prog 9 fnElem b 9 (tabD cmdB)) (hh : has (tabD cmdB) (.string u) = true ∧ (tabD cmdB).atKey (.string u) (.lit (.int .i64 (-1))) = .lit (.int .i64 ((k : Nat) : Int))) :
    Calls Tryz.prog 58 #[.map (some b), .string (BA u)] W fun e w' => e = .returned (.func (.func k) #[] #[]) ∧ W = w' := by
  obtain ⟨v, ps, hrun, hv⟩ := hown.look_ok (t := 86) (e := 84) strKeyed Tryz.underlying86 (z := .nilFunc) (zeroB W) (zd := .lit (.int .i64 (-1))) (zp := []) rfl (lookB u hu)
  rw [hh.1] at hrun
  rw [hh.2] at hv
  have hv := fnElem_inv hv
  subst hv
  clear hh hown hu
  go_enter Tryz.func58, Tryz.ntmps58
  go_wp2_with fail
  go_ret
  exact ⟨rfl, rfl⟩
theorem commandB_no (u : List UInt8) (b : Nat) (W : World) (hu : (BA u).size ≤ 4096) (hown : W.ownsMap Tryz.prog 9 fnElem b 9 (tabD cmdB)) (hh : has (tabD cmdB) (.string u) = false) :
    Calls Tryz.prog 58 #[.map (some b), .string (BA u)] W fun e w' => e = fault aWhat ∧ W = w' := by
  obtain ⟨v, ps, hrun, hv⟩ := hown.look_ok (t := 86) (e := 84) strKeyed Tryz.underlying86 (z := .nilFunc) (zeroB W) (zd := .lit (.int .i64 (-1))) (zp := []) rfl (lookB u hu)
  rw [hh] at hrun
  clear hh hown hu hv
  go_enter Tryz.func58, Tryz.ntmps58
  go_wp2_with fail
  exact ⟨rfl, rfl, rfl⟩
theorem zeroR (W : World) : (zeroValue 80).run Tryz.prog W = .ok .nilFunc W := by kernel_rfl
theorem commandR_yes (u : List UInt8) (k b : Nat) (W : World) (hu : (BA u).size ≤ 4096) (hown : W.ownsMap Tryz.prog 9 fnElem b 6 (tabD cmdR)) (hh : has (tabD cmdR) (.string u) = true ∧ (tabD cmdR).atKey (.string u) (.lit (.int .i64 (-1))) = .lit (.int .i64 ((k : Nat) : Int))) :
    Calls Tryz.prog 56 #[.map (some b), .string (BA u)] W fun e w' => e = .returned (.func (.func k) #[] #[]) ∧ W = w' := by
  obtain ⟨v, ps, hrun, hv⟩ := hown.look_ok (t := 82) (e := 80) strKeyed Tryz.underlying82 (z := .nilFunc) (zeroR W) (zd := .lit (.int .i64 (-1))) (zp := []) rfl (lookB u hu)
  rw [hh.1] at hrun
  rw [hh.2] at hv
  have hv := fnElem_inv hv
  subst hv
  clear hh hown hu
  go_enter Tryz.func56, Tryz.ntmps56
  go_wp2_with fail
  go_ret
  exact ⟨rfl, rfl⟩
theorem commandR_no (u : List UInt8) (b : Nat) (W : World) (hu : (BA u).size ≤ 4096) (hown : W.ownsMap Tryz.prog 9 fnElem b 6 (tabD cmdR)) (hh : has (tabD cmdR) (.string u) = false) :
    Calls Tryz.prog 56 #[.map (some b), .string (BA u)] W fun e w' => e = fault aWhat ∧ W = w' := by
  obtain ⟨v, ps, hrun, hv⟩ := hown.look_ok (t := 82) (e := 80) strKeyed Tryz.underlying82 (z := .nilFunc) (zeroR W) (zd := .lit (.int .i64 (-1))) (zp := []) rfl (lookB u hu)
  rw [hh] at hrun
  clear hh hown hu hv
  go_enter Tryz.func56, Tryz.ntmps56
  go_wp2_with fail
  exact ⟨rfl, rfl, rfl⟩
end Go.Proofs.YtcfhfllcdliaoaaGreatDoor
/- The program's lines, one method each. -/
namespace Go.Proofs.YtcfhfllcdliaoaaGreatDoor
open Go.RowKit
open Go.PlainAid (bt get_bt bt_nonneg bt_le)
set_option linter.unusedVariables false
set_option linter.unusedSimpArgs false
attribute [local irreducible] octS cN octF syn nearL farI

theorem frozen_below {w w' : World} {B : Nat} (hb : Below B w w') {p : Addr} (hp : p.block < B) : w'.frozen? p = w.frozen? p := by
  unfold World.frozen?
  rw [hb.block _ hp]
theorem Bch.below {w w' : World} {pb : Nat} {n : Int} (h : Bch w pb n) (hb : Below w.heap.size w w') : Bch w' pb n :=
  ⟨(hb.cell (p := ⟨pb, 0, none⟩) h.lt).trans h.1, (frozen_below hb (p := ⟨pb, 0, none⟩) h.lt).trans h.2.1, h.2.2⟩
theorem Bch.drew {w : World} {pb : Nat} {n : Int} (h : Bch w pb n) : Bch w.drew pb n := h
theorem Ans.lift {w w1 w2 : World} {pb : Nat} {c : Int × List UInt8} {e : Ending} {n : Int} (hB : Bch w pb n) (hb : Below w.heap.size w w1) (h : Below w1.heap.size (setB w1 pb c.1) w2) : Below w.heap.size (setB w pb c.1) w2 :=
  (below_setB c.1 hb hB.lt).trans (h.mono hb.size)
theorem say_below {w w' : World} {pb : Nat} {n : Int} (hB : Bch w pb n) (hb : Below w.heap.size w w') : Below w.heap.size (setB w pb n) w' := (setB_self hB).trans hb
theorem below_drewN (w : World) (k : Nat) : Below w.heap.size w (w.drewN k) := ⟨rfl, rfl, rfl, Nat.le_refl _, fun _ _ => rfl⟩
theorem said_one (x : Int) : saidL ([x], true) = decN x.toNat := by
  show saidTo [x] 1 = _
  rw [saidTo_succ, if_neg (by omega)]
  rfl
theorem iValid_calls (n : Int) (w : World) : Calls Tryz.prog 123 #[.int .i64 n] w fun e w' => e = .returned (.bool (wordB n)) ∧ w = w' := by
  rcases hb : wordB n with _ | _
  · exact iWordValid_no n w ((wordB_no n).1 hb)
  · exact iWordValid_ok n w ((wordB_iff n).1 hb)
theorem iAdd_calls (a n : Int) (w : World) (ha : IsW a) : Calls Tryz.prog 124 #[.int .i64 a, .int .i64 n] w fun e w' => e = .returned (.tuple #[.int .i64 (addA a n).1, .bool (addA a n).2]) ∧ w = w' := by
  unfold addA
  rcases hb : wordB n with _ | _
  · exact iWordAdd_no a n w (.inr ((wordB_no n).1 hb))
  · exact iWordAdd_ok a n w ha ((wordB_iff n).1 hb)
theorem become_no (pb : Nat) (o m : Int) (w : World) (hB : Bch w pb o) :
    Calls Tryz.prog 122 #[.pointer (some ⟨pb, 0, none⟩), .int .i64 m, .bool false] w fun e w' => e = fault aNo ∧ w = w' := by
  have h1 := hB.1
  have h2 := hB.2.1
  go_enter Tryz.func122, Tryz.ntmps122
  go_wp2_with fail
  refine (must_int_no m _).mono ?_
  rintro e w' ⟨he, rfl⟩
  unfold fault at he
  subst he
  go_wp2_with fail
  exact ⟨rfl, rfl, rfl⟩
theorem become_yes (pb : Nat) (o m : Int) (w : World) (hB : Bch w pb o) :
    Calls Tryz.prog 122 #[.pointer (some ⟨pb, 0, none⟩), .int .i64 m, .bool true] w fun e w' => e = .returned (.string (BA aOk)) ∧ w' = setB w pb m := by
  have h1 := hB.1
  have h2 := hB.2.1
  go_enter Tryz.func122, Tryz.ntmps122
  go_wp2_with fail
  refine (must_int_yes m _).mono ?_
  rintro e w' ⟨rfl, rfl⟩
  go_wp2_with fail
  go_ret
  exact ⟨rfl, rfl⟩
theorem oneA_yes {r : ByteArray} (h : (numS r).2 = true) : numE r = .returned (.int .i64 (oneA r)) := by unfold numE oneA; rw [if_pos h, if_pos h]
theorem oneA_fail {r : ByteArray} (h : (numS r).2 = false) : numE r = fault aNo ∧ oneA r = -1 := by
  unfold numE oneA
  rw [if_neg (by rw [h]; decide), if_neg (by rw [h]; decide)]
  exact ⟨rfl, rfl⟩
set_option maxHeartbeats 4000000 in
theorem show_calls (pb : Nat) (n : Int) (w : World) (hB : Bch w pb n) (hn : IsW n) (hT : TabX w) :
    Calls Tryz.prog 87 #[.pointer (some ⟨pb, 0, none⟩)] w (Ans w pb (n, bareA n wShow)) := by
  have h1 := hB.1
  have h2 := hB.2.1
  have HB := Lib.hid hB
  have HT := Lib.hid hT
  have HV := Lib.hid (show bareA n wShow = chrs n 27 from rfl)
  generalize bareA n wShow = R at *
  have HC := Lib.hid (iWordText_ok n w hn)
  clear hB hT
  go_enter Tryz.func87, Tryz.ntmps87
  go_wp2_with fail
  refine HC.out.mono ?_
  rintro e w1 ⟨rfl, b1⟩
  go_wp2_with fail
  refine (must_string_yes _ _).mono ?_
  rintro e w2 ⟨rfl, rfl⟩
  go_wp2_with fail
  go_ret
  exact ⟨.inl (by rw [HV.out]; rfl), say_below HB.out b1⟩
set_option maxHeartbeats 4000000 in
theorem places_calls (pb : Nat) (n : Int) (w : World) (hB : Bch w pb n) (hn : IsW n) (hT : TabX w) :
    Calls Tryz.prog 88 #[.pointer (some ⟨pb, 0, none⟩)] w (Ans w pb (n, bareA n wPlaces)) := by
  have h1 := hB.1
  have h2 := hB.2.1
  have HB := Lib.hid hB
  have HT := Lib.hid hT
  have HV := Lib.hid (show bareA n wPlaces = saidTo (plI n.toNat) (plI n.toNat).length from rfl)
  generalize bareA n wPlaces = R at *
  have HC := Lib.hid (iWordPlaces_ok n w hn hT.1.1)
  have HS := Lib.hid (small_pl n.toNat)
  clear hB hT
  go_enter Tryz.func88, Tryz.ntmps88
  go_wp2_with fail
  refine HC.out.mono ?_
  rintro e w1 ⟨v, rfl, o1, b1⟩
  obtain ⟨A, c, rfl⟩ := o1.slice
  have HL := Lib.hid (listText_calls A c (plI n.toNat) w1 o1.rds HS.out (HT.out.keep b1))
  clear o1
  go_wp2_with fail
  refine (must_list_yes _ _ _ _).mono ?_
  rintro e w2 ⟨rfl, rfl⟩
  go_wp2_with fail
  refine HL.out.mono ?_
  rintro e w2 ⟨rfl, b2⟩
  go_wp2_with fail
  go_ret
  exact ⟨.inl (by rw [HV.out]; rfl), say_below HB.out (b1.trans (b2.mono b1.size))⟩
set_option maxHeartbeats 4000000 in
theorem scores_calls (pb : Nat) (n : Int) (w : World) (hB : Bch w pb n) (hn : IsW n) (hT : TabX w) :
    Calls Tryz.prog 90 #[.pointer (some ⟨pb, 0, none⟩)] w (Ans w pb (n, bareA n wScores)) := by
  have h1 := hB.1
  have h2 := hB.2.1
  have HB := Lib.hid hB
  have HT := Lib.hid hT
  have HV := Lib.hid (show bareA n wScores = saidTo (scoresI n) (scoresI n).length from rfl)
  generalize bareA n wScores = R at *
  have HC := Lib.hid (show Calls Tryz.prog 133 #[.int .i64 n] w (GotL w (scoresI n) true) from by
    have := iCodeScores_calls n w hT.1.1
    rwa [show cScores n = (scoresI n, true) by unfold cScores; rw [if_pos ((wordB_iff n).2 hn)]] at this)
  have HS := Lib.hid (small_scores n)
  clear hB hT
  go_enter Tryz.func90, Tryz.ntmps90
  go_wp2_with fail
  refine HC.out.mono ?_
  rintro e w1 ⟨v, rfl, o1, b1⟩
  obtain ⟨A, c, rfl⟩ := o1.slice
  have HL := Lib.hid (listText_calls A c (scoresI n) w1 o1.rds HS.out (HT.out.keep b1))
  clear o1
  go_wp2_with fail
  refine (must_list_yes _ _ _ _).mono ?_
  rintro e w2 ⟨rfl, rfl⟩
  go_wp2_with fail
  refine HL.out.mono ?_
  rintro e w2 ⟨rfl, b2⟩
  go_wp2_with fail
  go_ret
  exact ⟨.inl (by rw [HV.out]; rfl), say_below HB.out (b1.trans (b2.mono b1.size))⟩
set_option maxHeartbeats 4000000 in
theorem weight_calls (pb : Nat) (n : Int) (w : World) (hB : Bch w pb n) (hn : IsW n) (hT : TabX w) :
    Calls Tryz.prog 89 #[.pointer (some ⟨pb, 0, none⟩)] w (Ans w pb (n, bareA n wWeight)) := by
  have h1 := hB.1
  have h2 := hB.2.1
  have HB := Lib.hid hB
  have HT := Lib.hid hT
  have HV := Lib.hid (show bareA n wWeight = saidL ([wt n], true) from rfl)
  generalize bareA n wWeight = R at *
  have HC := Lib.hid (iWordWeight_ok n w hn)
  have hx : 0 ≤ wt n ∧ wt n ≤ 1000000000 := by have := wt_range n; omega
  have HI := Lib.hid (fun W hT => itoa_calls (wt n) W hx.1 hx.2 hT)
  rw [said_one] at HV
  clear hx hB hT
  go_enter Tryz.func89, Tryz.ntmps89
  go_wp2_with fail
  refine HC.out.mono ?_
  rintro e w1 ⟨rfl, k, rfl⟩
  have b1 := below_drewN w k
  have B1 := Lib.hid b1
  clear b1
  go_wp2_with fail
  refine (HI.out _ (HT.out.keep B1.out)).mono ?_
  rintro e w2 ⟨rfl, b2⟩
  go_wp2_with fail
  go_ret
  exact ⟨.inl (by rw [HV.out]; rfl), say_below HB.out (B1.out.trans (b2.mono B1.out.size))⟩
set_option maxHeartbeats 4000000 in
theorem near_calls (pb : Nat) (n : Int) (w : World) (hB : Bch w pb n) (hn : IsW n) (hT : TabX w) :
    Calls Tryz.prog 93 #[.pointer (some ⟨pb, 0, none⟩)] w (Ans w pb (n, bareA n wNear)) := by
  have h1 := hB.1
  have h2 := hB.2.1
  have HB := Lib.hid hB
  have HT := Lib.hid hT
  have HV := Lib.hid (show bareA n wNear = saidL ([cFar n], true) from rfl)
  generalize bareA n wNear = R at *
  have HC := Lib.hid (iCodeFar_calls n w hT.1.2)
  have hx : 0 ≤ cFar n ∧ cFar n ≤ 1000000000 := by unfold cFar; rw [if_pos ((wordB_iff n).2 hn)]; have := far_range n hn.1 hn.2; omega
  have HI := Lib.hid (fun W hT => itoa_calls (cFar n) W hx.1 hx.2 hT)
  rw [said_one] at HV
  clear hx hB hT
  go_enter Tryz.func93, Tryz.ntmps93
  go_wp2_with fail
  refine HC.out.mono ?_
  rintro e w1 ⟨rfl, b1⟩
  have B1 := Lib.hid b1
  clear b1
  go_wp2_with fail
  refine (HI.out _ (HT.out.keep B1.out)).mono ?_
  rintro e w2 ⟨rfl, b2⟩
  go_wp2_with fail
  go_ret
  exact ⟨.inl (by rw [HV.out]; rfl), say_below HB.out (B1.out.trans (b2.mono B1.out.size))⟩
set_option maxHeartbeats 4000000 in
theorem in_calls (pb : Nat) (n : Int) (w : World) (hB : Bch w pb n) (hn : IsW n) (hT : TabX w) :
    Calls Tryz.prog 91 #[.pointer (some ⟨pb, 0, none⟩)] w (Ans w pb (n, bareA n wIn)) := by
  have h1 := hB.1
  have h2 := hB.2.1
  have HB := Lib.hid hB
  have HT := Lib.hid hT
  have HV := Lib.hid (show bareA n wIn = (if cIn n then aYes else aNot) from rfl)
  generalize bareA n wIn = R at *
  have HC := Lib.hid (iCodeIn_calls n w hT.1)
  clear hB hT
  rcases hc : cIn n with _ | _
  · rw [hc] at HV HC
    have HV2 := Lib.hid (show R = aNot from HV.out)
    clear hc HV
    go_enter Tryz.func91, Tryz.ntmps91
    go_wp2_with fail
    refine HC.out.mono ?_
    rintro e w1 ⟨rfl, b1⟩
    go_wp2_with fail
    go_ret
    exact ⟨.inl (by rw [HV2.out]; rfl), say_below HB.out b1⟩
  · rw [hc] at HV HC
    have HV2 := Lib.hid (show R = aYes from HV.out)
    clear hc HV
    go_enter Tryz.func91, Tryz.ntmps91
    go_wp2_with fail
    refine HC.out.mono ?_
    rintro e w1 ⟨rfl, b1⟩
    go_wp2_with fail
    go_ret
    exact ⟨.inl (by rw [HV2.out]; rfl), say_below HB.out b1⟩
set_option maxHeartbeats 4000000 in
theorem sextet_calls (pb : Nat) (n : Int) (w : World) (hB : Bch w pb n) (hn : IsW n) (hT : TabX w) :
    Calls Tryz.prog 94 #[.pointer (some ⟨pb, 0, none⟩)] w (Ans w pb (n, bareA n wSextet)) := by
  have h1 := hB.1
  have h2 := hB.2.1
  have HB := Lib.hid hB
  have HT := Lib.hid hT
  have HV := Lib.hid (show bareA n wSextet = saidL (sxA n) from rfl)
  generalize bareA n wSextet = R at *
  have HC := Lib.hid (iSextetOf_calls n w hT.1.2)
  have HS := Lib.hid (small_sx n)
  obtain ⟨a, ha⟩ : ∃ a, a = sxA n := ⟨_, rfl⟩
  rw [← ha] at HV HC HS
  clear ha hB hT
  obtain ⟨xs, b⟩ := a
  rcases b with _ | _
  · go_enter Tryz.func94, Tryz.ntmps94
    go_wp2_with fail
    refine HC.out.mono ?_
    rintro e w1 ⟨v, rfl, o1, b1⟩
    obtain ⟨A, c, rfl⟩ := o1.slice
    clear o1
    go_wp2_with fail
    refine (must_list_no _ _ _ _).mono ?_
    rintro e w2 ⟨he, rfl⟩
    unfold fault at he
    subst he
    go_wp2_with fail
    exact ⟨rfl, .inr (by rw [HV.out]; rfl), say_below HB.out b1⟩
  · go_enter Tryz.func94, Tryz.ntmps94
    go_wp2_with fail
    refine HC.out.mono ?_
    rintro e w1 ⟨v, rfl, o1, b1⟩
    obtain ⟨A, c, rfl⟩ := o1.slice
    have HL := Lib.hid (listText_calls A c xs w1 o1.rds HS.out (HT.out.keep b1))
    clear o1
    go_wp2_with fail
    refine (must_list_yes _ _ _ _).mono ?_
    rintro e w2 ⟨rfl, rfl⟩
    go_wp2_with fail
    refine HL.out.mono ?_
    rintro e w2 ⟨rfl, b2⟩
    go_wp2_with fail
    go_ret
    exact ⟨.inl (by rw [HV.out]; rfl), say_below HB.out (b1.trans (b2.mono b1.size))⟩
set_option maxHeartbeats 4000000 in
theorem meet_calls (pb : Nat) (n : Int) (w : World) (hB : Bch w pb n) (hn : IsW n) (hT : TabX w) :
    Calls Tryz.prog 95 #[.pointer (some ⟨pb, 0, none⟩)] w (Ans w pb (n, bareA n wMeet)) := by
  have h1 := hB.1
  have h2 := hB.2.1
  have HB := Lib.hid hB
  have HT := Lib.hid hT
  have HV := Lib.hid (show bareA n wMeet = saidL (oMeet n) from rfl)
  generalize bareA n wMeet = R at *
  have HC := Lib.hid (iOctadMeet_calls n w hT.1)
  have HS := Lib.hid (small_meet n)
  obtain ⟨a, ha⟩ : ∃ a, a = oMeet n := ⟨_, rfl⟩
  rw [← ha] at HV HC HS
  clear ha hB hT
  obtain ⟨xs, b⟩ := a
  rcases b with _ | _
  · go_enter Tryz.func95, Tryz.ntmps95
    go_wp2_with fail
    refine HC.out.mono ?_
    rintro e w1 ⟨v, rfl, o1, b1⟩
    obtain ⟨A, c, rfl⟩ := o1.slice
    clear o1
    go_wp2_with fail
    refine (must_list_no _ _ _ _).mono ?_
    rintro e w2 ⟨he, rfl⟩
    unfold fault at he
    subst he
    go_wp2_with fail
    exact ⟨rfl, .inr (by rw [HV.out]; rfl), say_below HB.out b1⟩
  · go_enter Tryz.func95, Tryz.ntmps95
    go_wp2_with fail
    refine HC.out.mono ?_
    rintro e w1 ⟨v, rfl, o1, b1⟩
    obtain ⟨A, c, rfl⟩ := o1.slice
    have HL := Lib.hid (listText_calls A c xs w1 o1.rds HS.out (HT.out.keep b1))
    clear o1
    go_wp2_with fail
    refine (must_list_yes _ _ _ _).mono ?_
    rintro e w2 ⟨rfl, rfl⟩
    go_wp2_with fail
    refine HL.out.mono ?_
    rintro e w2 ⟨rfl, b2⟩
    go_wp2_with fail
    go_ret
    exact ⟨.inl (by rw [HV.out]; rfl), say_below HB.out (b1.trans (b2.mono b1.size))⟩
set_option maxHeartbeats 4000000 in
theorem mend_calls (pb : Nat) (n : Int) (w : World) (hB : Bch w pb n) (hn : IsW n) (hT : TabX w) :
    Calls Tryz.prog 92 #[.pointer (some ⟨pb, 0, none⟩)] w (Ans w pb (doneA n (cMend n))) := by
  have h1 := hB.1
  have h2 := hB.2.1
  have HB := Lib.hid hB
  have HT := Lib.hid hT
  have HC := Lib.hid (iCodeMend_calls n w hT.1.2)
  have HBe := Lib.hid (fun W hB => become_calls pb n (cMend n) W hB)
  generalize doneA n (cMend n) = d at *
  generalize cMend n = a at *
  clear hB hT
  go_enter Tryz.func92, Tryz.ntmps92
  go_wp2_with fail
  refine HC.out.mono ?_
  rintro e w1 ⟨rfl, b1⟩
  have B1 := Lib.hid b1
  clear b1
  go_wp2_with fail
  refine (HBe.out _ (HB.out.below B1.out)).mono ?_
  rintro e w2 ⟨he, hb2⟩
  have hb2 := Lib.hid (Ans.lift (e := e) HB.out B1.out hb2)
  rcases he with rfl | he
  · go_wp2_with fail
    go_ret
    exact ⟨.inl rfl, hb2.out⟩
  · unfold fault at he
    subst he
    go_wp2_with fail
    exact ⟨rfl, .inr rfl, hb2.out⟩
set_option maxHeartbeats 4000000 in
theorem read_calls (pb : Nat) (n : Int) (r : ByteArray) (w : World) (hB : Bch w pb n) (hn : IsW n) (hT : TabX w) (hr : r.size ≤ 4096) :
    Calls Tryz.prog 83 #[.pointer (some ⟨pb, 0, none⟩), .string r] w (Ans w pb (doneA n (rdA r))) := by
  have h1 := hB.1
  have h2 := hB.2.1
  have HB := Lib.hid hB
  have HT := Lib.hid hT
  have HC := Lib.hid (iWordRead_calls r w (by unfold maxLen; omega))
  rw [resW_rdA] at HC
  have HBe := Lib.hid (fun W hB => become_calls pb n (rdA r) W hB)
  generalize doneA n (rdA r) = d at *
  generalize rdA r = a at *
  clear hB hT hr
  go_enter Tryz.func83, Tryz.ntmps83
  go_wp2_with fail
  refine HC.out.mono ?_
  rintro e w1 ⟨rfl, rfl⟩
  go_wp2_with fail
  refine (HBe.out _ HB.out).mono ?_
  rintro e w2 ⟨he, hb2⟩
  have hb2 := Lib.hid (hb2)
  rcases he with rfl | he
  · go_wp2_with fail
    go_ret
    exact ⟨.inl rfl, hb2.out⟩
  · unfold fault at he
    subst he
    go_wp2_with fail
    exact ⟨rfl, .inr rfl, hb2.out⟩
set_option maxHeartbeats 4000000 in
theorem octad_calls (pb : Nat) (n : Int) (r : ByteArray) (w : World) (hB : Bch w pb n) (hn : IsW n) (hT : TabX w) (hr : r.size ≤ 4096) :
    Calls Tryz.prog 85 #[.pointer (some ⟨pb, 0, none⟩), .string r] w (Ans w pb (doneA n (if (numsS r 5).2 then oThrough (numsS r 5).1 else (0, false)))) := by
  have h1 := hB.1
  have h2 := hB.2.1
  have HB := Lib.hid hB
  have HT := Lib.hid hT
  have HN := Lib.hid (numbersIn_calls r w hr hT)
  rcases hb : (numsS r 5).2 with _ | _
  · have HN2 := Lib.hid (fun e w' (h : NumsR w (numsS r 5) e w') => show e = fault aNo ∧ Below w.heap.size w w' from ⟨by have := h.1; rw [hb] at this; exact this, h.2⟩)
    clear hb hB hT hr
    go_enter Tryz.func85, Tryz.ntmps85
    go_wp2_with fail
    refine HN.out.mono ?_
    rintro e w1 h
    obtain ⟨he, b1⟩ := HN2.out _ _ h
    clear h
    unfold fault at he
    subst he
    go_wp2_with fail
    exact ⟨rfl, .inr rfl, say_below HB.out b1⟩
  · have HN2 := Lib.hid (fun e w' (h : NumsR w (numsS r 5) e w') => show (∃ v, e = .returned v ∧ Own w' w.heap.size v (numsS r 5).1) ∧ Below w.heap.size w w' from ⟨by have := h.1; rw [hb] at this; exact this, h.2⟩)
    have HLen := Lib.hid (numsS_len hb)
    have HBe := Lib.hid (fun W hB => become_calls pb n (oThrough (numsS r 5).1) W hB)
    rw [if_pos rfl]
    generalize doneA n (oThrough (numsS r 5).1) = d at *
    generalize (numsS r 5) = q at *
    obtain ⟨xs, q2⟩ := q
    have HTh := Lib.hid (fun A c W ha h1 h2 => iOctadThrough_calls A c xs W ha (by have := HLen.out; simp at this; unfold maxLen; omega) h1 h2)
    clear hb hB hT hr
    go_enter Tryz.func85, Tryz.ntmps85
    go_wp2_with fail
    refine HN.out.mono ?_
    rintro e w1 h
    obtain ⟨⟨v, he, o1⟩, b1⟩ := HN2.out _ _ h
    clear h
    subst he
    obtain ⟨A, c, rfl⟩ := o1.slice
    have hX := HT.out.keep b1
    have HT2 := Lib.hid (HTh.out A c w1 o1.rds hX.1.1 hX.1.2)
    generalize oThrough xs = a at *
    have B1 := Lib.hid b1
    clear hX o1 b1
    go_wp2_with fail
    refine HT2.out.mono ?_
    rintro e w3 ⟨rfl, b3⟩
    have B3 := Lib.hid (B1.out.trans (b3.mono B1.out.size))
    clear b3
    go_wp2_with fail
    refine (HBe.out _ (HB.out.below B3.out)).mono ?_
    rintro e w2 ⟨he, hb2⟩
    have hb2 := Lib.hid (Ans.lift (e := e) HB.out B3.out hb2)
    rcases he with rfl | he
    · go_wp2_with fail
      go_ret
      exact ⟨.inl rfl, hb2.out⟩
    · unfold fault at he
      subst he
      go_wp2_with fail
      exact ⟨rfl, .inr rfl, hb2.out⟩
set_option maxHeartbeats 4000000 in
theorem set_calls (pb : Nat) (n : Int) (r : ByteArray) (w : World) (hB : Bch w pb n) (hn : IsW n) (hT : TabX w) (hr : r.size ≤ 4096) :
    Calls Tryz.prog 81 #[.pointer (some ⟨pb, 0, none⟩), .string r] w (Ans w pb (doneA n ((oneA r, wordB (oneA r))))) := by
  have h1 := hB.1
  have h2 := hB.2.1
  have HB := Lib.hid hB
  have HT := Lib.hid hT
  have HN := Lib.hid (fun W => numberIn_calls r W hr)
  rcases hb : (numS r).2 with _ | _
  · obtain ⟨he, ho⟩ := oneA_fail hb
    have HE := Lib.hid he
    have HD := Lib.hid (show doneA n ((oneA r, wordB (oneA r))) = (n, aNo) by rw [ho]; rfl)
    generalize doneA n ((oneA r, wordB (oneA r))) = d at *
    clear hb he ho hB hT hr
    go_enter Tryz.func81, Tryz.ntmps81
    go_wp2_with fail
    refine (HN.out _).mono ?_
    rintro e w1 ⟨he, rfl⟩
    rw [HE.out] at he
    unfold fault at he
    subst he
    go_wp2_with fail
    exact ⟨rfl, .inr (by rw [HD.out]; rfl), by rw [HD.out]; exact setB_self HB.out⟩
  · have HE := Lib.hid (oneA_yes hb)
    have HBe := Lib.hid (fun W hB => become_calls pb n ((oneA r, wordB (oneA r))) W hB)
    generalize doneA n ((oneA r, wordB (oneA r))) = d at *
    generalize oneA r = x at *
    have HC := Lib.hid (fun W (h : TabX W) => iValid_calls x W)
    clear hb hB hT hr
    go_enter Tryz.func81, Tryz.ntmps81
    go_wp2_with fail
    refine (HN.out _).mono ?_
    rintro e w1 ⟨he, rfl⟩
    rw [HE.out] at he
    subst he
    go_wp2_with fail
    refine (HC.out _ HT.out).mono ?_
    rintro e w1 ⟨rfl, rfl⟩
    go_wp2_with fail
    refine (HBe.out _ HB.out).mono ?_
    rintro e w2 ⟨he, hb2⟩
    have hb2 := Lib.hid (hb2)
    rcases he with rfl | he
    · go_wp2_with fail
      go_ret
      exact ⟨.inl rfl, hb2.out⟩
    · unfold fault at he
      subst he
      go_wp2_with fail
      exact ⟨rfl, .inr rfl, hb2.out⟩
set_option maxHeartbeats 4000000 in
theorem code_calls (pb : Nat) (n : Int) (r : ByteArray) (w : World) (hB : Bch w pb n) (hn : IsW n) (hT : TabX w) (hr : r.size ≤ 4096) :
    Calls Tryz.prog 84 #[.pointer (some ⟨pb, 0, none⟩), .string r] w (Ans w pb (doneA n (cOf (oneA r)))) := by
  have h1 := hB.1
  have h2 := hB.2.1
  have HB := Lib.hid hB
  have HT := Lib.hid hT
  have HN := Lib.hid (fun W => numberIn_calls r W hr)
  rcases hb : (numS r).2 with _ | _
  · obtain ⟨he, ho⟩ := oneA_fail hb
    have HE := Lib.hid he
    have HD := Lib.hid (show doneA n (cOf (oneA r)) = (n, aNo) by rw [ho]; rfl)
    generalize doneA n (cOf (oneA r)) = d at *
    clear hb he ho hB hT hr
    go_enter Tryz.func84, Tryz.ntmps84
    go_wp2_with fail
    refine (HN.out _).mono ?_
    rintro e w1 ⟨he, rfl⟩
    rw [HE.out] at he
    unfold fault at he
    subst he
    go_wp2_with fail
    exact ⟨rfl, .inr (by rw [HD.out]; rfl), by rw [HD.out]; exact setB_self HB.out⟩
  · have HE := Lib.hid (oneA_yes hb)
    have HBe := Lib.hid (fun W hB => become_calls pb n (cOf (oneA r)) W hB)
    generalize doneA n (cOf (oneA r)) = d at *
    generalize oneA r = x at *
    have HC := Lib.hid (fun W (h : TabX W) => iCodeOf_calls x W h.1.2)
    generalize cOf x = a at *
    clear hb hB hT hr
    go_enter Tryz.func84, Tryz.ntmps84
    go_wp2_with fail
    refine (HN.out _).mono ?_
    rintro e w1 ⟨he, rfl⟩
    rw [HE.out] at he
    subst he
    go_wp2_with fail
    refine (HC.out _ HT.out).mono ?_
    rintro e w1 ⟨rfl, b1⟩
    have B1 := Lib.hid b1
    clear b1
    go_wp2_with fail
    refine (HBe.out _ (HB.out.below B1.out)).mono ?_
    rintro e w2 ⟨he, hb2⟩
    have hb2 := Lib.hid (Ans.lift (e := e) HB.out B1.out hb2)
    rcases he with rfl | he
    · go_wp2_with fail
      go_ret
      exact ⟨.inl rfl, hb2.out⟩
    · unfold fault at he
      subst he
      go_wp2_with fail
      exact ⟨rfl, .inr rfl, hb2.out⟩
set_option maxHeartbeats 4000000 in
theorem line_calls (pb : Nat) (n : Int) (r : ByteArray) (w : World) (hB : Bch w pb n) (hn : IsW n) (hT : TabX w) (hr : r.size ≤ 4096) :
    Calls Tryz.prog 86 #[.pointer (some ⟨pb, 0, none⟩), .string r] w (Ans w pb (doneA n (lwI (oneA r)))) := by
  have h1 := hB.1
  have h2 := hB.2.1
  have HB := Lib.hid hB
  have HT := Lib.hid hT
  have HN := Lib.hid (fun W => numberIn_calls r W hr)
  rcases hb : (numS r).2 with _ | _
  · obtain ⟨he, ho⟩ := oneA_fail hb
    have HE := Lib.hid he
    have HD := Lib.hid (show doneA n (lwI (oneA r)) = (n, aNo) by rw [ho]; rfl)
    generalize doneA n (lwI (oneA r)) = d at *
    clear hb he ho hB hT hr
    go_enter Tryz.func86, Tryz.ntmps86
    go_wp2_with fail
    refine (HN.out _).mono ?_
    rintro e w1 ⟨he, rfl⟩
    rw [HE.out] at he
    unfold fault at he
    subst he
    go_wp2_with fail
    exact ⟨rfl, .inr (by rw [HD.out]; rfl), by rw [HD.out]; exact setB_self HB.out⟩
  · have HE := Lib.hid (oneA_yes hb)
    have HBe := Lib.hid (fun W hB => become_calls pb n (lwI (oneA r)) W hB)
    generalize doneA n (lwI (oneA r)) = d at *
    generalize oneA r = x at *
    have HC := Lib.hid (fun W (h : TabX W) => iLineWord_calls x W)
    generalize lwI x = a at *
    clear hb hB hT hr
    go_enter Tryz.func86, Tryz.ntmps86
    go_wp2_with fail
    refine (HN.out _).mono ?_
    rintro e w1 ⟨he, rfl⟩
    rw [HE.out] at he
    subst he
    go_wp2_with fail
    refine (HC.out _ HT.out).mono ?_
    rintro e w1 ⟨rfl, b1⟩
    have B1 := Lib.hid b1
    clear b1
    go_wp2_with fail
    refine (HBe.out _ (HB.out.below B1.out)).mono ?_
    rintro e w2 ⟨he, hb2⟩
    have hb2 := Lib.hid (Ans.lift (e := e) HB.out B1.out hb2)
    rcases he with rfl | he
    · go_wp2_with fail
      go_ret
      exact ⟨.inl rfl, hb2.out⟩
    · unfold fault at he
      subst he
      go_wp2_with fail
      exact ⟨rfl, .inr rfl, hb2.out⟩
set_option maxHeartbeats 4000000 in
theorem add_calls (pb : Nat) (n : Int) (r : ByteArray) (w : World) (hB : Bch w pb n) (hn : IsW n) (hT : TabX w) (hr : r.size ≤ 4096) :
    Calls Tryz.prog 82 #[.pointer (some ⟨pb, 0, none⟩), .string r] w (Ans w pb (doneA n (addA n (oneA r)))) := by
  have h1 := hB.1
  have h2 := hB.2.1
  have HB := Lib.hid hB
  have HT := Lib.hid hT
  have HN := Lib.hid (fun W => numberIn_calls r W hr)
  rcases hb : (numS r).2 with _ | _
  · obtain ⟨he, ho⟩ := oneA_fail hb
    have HE := Lib.hid he
    have HD := Lib.hid (show doneA n (addA n (oneA r)) = (n, aNo) by rw [ho]; rfl)
    generalize doneA n (addA n (oneA r)) = d at *
    clear hb he ho hB hT hr
    go_enter Tryz.func82, Tryz.ntmps82
    go_wp2_with fail
    refine wp_region_held_drew (S := fun W => Bch W pb n) (by kernel_rfl) HB.out (fun hd => ?_)
    refine wpAnyH_take (i := 0) (v := .pointer (some ⟨pb, 0, none⟩)) rfl (by kernel_rfl) (by kernel_rfl) (by kernel_rfl) (fun _ _ _ h => h) (Or.inl ⟨by kernel_rfl, fun w _ => by kernel_rfl⟩) hd ?_
    change wpAnyH _ _ _ _ _ _ _ (Act.put _ (some 5) (.pointer (some ⟨pb, 0, none⟩))) _
    simp only [Act.put, List.setIfInBounds_toArray, List.set_cons_zero, List.set_cons_succ]
    refine wpAnyH_take (i := 1) (v := .pointer (some ⟨pb, 0, none⟩)) rfl (by kernel_rfl) (by kernel_rfl) (by kernel_rfl) (fun _ _ _ h => h) (Or.inl ⟨by kernel_rfl, fun w _ => by kernel_rfl⟩) hd ?_
    change wpAnyH _ _ _ _ _ _ _ (Act.put _ (some 6) (.pointer (some ⟨pb, 0, none⟩))) _
    simp only [Act.put, List.setIfInBounds_toArray, List.set_cons_zero, List.set_cons_succ]
    refine wpAnyH_take (i := 2) (v := .pointer (some ⟨pb, 0, none⟩)) rfl (by kernel_rfl) (by kernel_rfl) (by kernel_rfl) (fun _ _ _ h => h) (Or.inl ⟨by kernel_rfl, fun w hS => by have hS1 := hS.1; have hS2 := hS.2.1; go_simp⟩) hd ?_
    change wpAnyH _ _ _ _ _ _ _ (Act.put _ (some 7) (.pointer (some ⟨pb, 0, none⟩))) _
    simp only [Act.put, List.setIfInBounds_toArray, List.set_cons_zero, List.set_cons_succ]
    refine wpAnyH_take (i := 3) (v := .pointer (some ⟨pb, 0, none⟩)) rfl (by kernel_rfl) (by kernel_rfl) (by kernel_rfl) (fun _ _ _ h => h) (Or.inl ⟨by kernel_rfl, fun w hS => by have hS1 := hS.1; have hS2 := hS.2.1; go_simp⟩) hd ?_
    change wpAnyH _ _ _ _ _ _ _ (Act.put _ (some 8) (.pointer (some ⟨pb, 0, none⟩))) _
    simp only [Act.put, List.setIfInBounds_toArray, List.set_cons_zero, List.set_cons_succ]
    refine wpAnyH_take (i := 4) (v := .int .i64 n) rfl (by kernel_rfl) (by kernel_rfl) (by kernel_rfl) (fun _ _ _ h => h) (Or.inl ⟨by kernel_rfl, fun w hS => by have hS1 := hS.1; have hS2 := hS.2.1; go_simp⟩) hd ?_
    change wpAnyH _ _ _ _ _ _ _ (Act.put _ (some 9) (.int .i64 n)) _
    simp only [Act.put, List.setIfInBounds_toArray, List.set_cons_zero, List.set_cons_succ]
    refine wpAnyH_take (i := 5) (v := .string r) rfl (by kernel_rfl) (by kernel_rfl) (by kernel_rfl) (fun _ _ _ h => h) (Or.inl ⟨by kernel_rfl, fun w _ => by kernel_rfl⟩) hd ?_
    change wpAnyH _ _ _ _ _ _ _ (Act.put _ (some 10) (.string r)) _
    simp only [Act.put, List.setIfInBounds_toArray, List.set_cons_zero, List.set_cons_succ]
    refine wpAnyH_ready (rs := [6]) (by kernel_rfl) (by simp) ?_
    refine AllReadyH.cons rfl (fun K hK => ?_) AllReadyH.nil
    go_simp
    go_at_call 121
    refine (HN.out _).mono ?_
    rintro e w1 ⟨he, rfl⟩
    rw [HE.out] at he
    unfold fault at he
    subst he
    exact ⟨rfl, .inr (by rw [HD.out]; rfl), by rw [HD.out]; exact say_below HB.out (Below.refl _ _).drew⟩
  · have HE := Lib.hid (oneA_yes hb)
    generalize oneA r = x at *
    have HC := Lib.hid (fun W => iAdd_calls n x W hn)
    obtain ⟨a, ha⟩ : ∃ a, addA n x = a := ⟨_, rfl⟩
    rw [ha] at HC ⊢
    clear ha
    obtain ⟨m, b⟩ := a
    rcases b with _ | _
    · have HBe := Lib.hid (fun W (h : Bch W pb n) => become_no pb n m W h)
      clear hb hB hT hr
      go_enter Tryz.func82, Tryz.ntmps82
      go_wp2_with fail
      refine wp_region_held_drew (S := fun W => Bch W pb n) (by kernel_rfl) HB.out (fun hd => ?_)
      refine wpAnyH_take (i := 0) (v := .pointer (some ⟨pb, 0, none⟩)) rfl (by kernel_rfl) (by kernel_rfl) (by kernel_rfl) (fun _ _ _ h => h) (Or.inl ⟨by kernel_rfl, fun w _ => by kernel_rfl⟩) hd ?_
      change wpAnyH _ _ _ _ _ _ _ (Act.put _ (some 5) (.pointer (some ⟨pb, 0, none⟩))) _
      simp only [Act.put, List.setIfInBounds_toArray, List.set_cons_zero, List.set_cons_succ]
      refine wpAnyH_take (i := 1) (v := .pointer (some ⟨pb, 0, none⟩)) rfl (by kernel_rfl) (by kernel_rfl) (by kernel_rfl) (fun _ _ _ h => h) (Or.inl ⟨by kernel_rfl, fun w _ => by kernel_rfl⟩) hd ?_
      change wpAnyH _ _ _ _ _ _ _ (Act.put _ (some 6) (.pointer (some ⟨pb, 0, none⟩))) _
      simp only [Act.put, List.setIfInBounds_toArray, List.set_cons_zero, List.set_cons_succ]
      refine wpAnyH_take (i := 2) (v := .pointer (some ⟨pb, 0, none⟩)) rfl (by kernel_rfl) (by kernel_rfl) (by kernel_rfl) (fun _ _ _ h => h) (Or.inl ⟨by kernel_rfl, fun w hS => by have hS1 := hS.1; have hS2 := hS.2.1; go_simp⟩) hd ?_
      change wpAnyH _ _ _ _ _ _ _ (Act.put _ (some 7) (.pointer (some ⟨pb, 0, none⟩))) _
      simp only [Act.put, List.setIfInBounds_toArray, List.set_cons_zero, List.set_cons_succ]
      refine wpAnyH_take (i := 3) (v := .pointer (some ⟨pb, 0, none⟩)) rfl (by kernel_rfl) (by kernel_rfl) (by kernel_rfl) (fun _ _ _ h => h) (Or.inl ⟨by kernel_rfl, fun w hS => by have hS1 := hS.1; have hS2 := hS.2.1; go_simp⟩) hd ?_
      change wpAnyH _ _ _ _ _ _ _ (Act.put _ (some 8) (.pointer (some ⟨pb, 0, none⟩))) _
      simp only [Act.put, List.setIfInBounds_toArray, List.set_cons_zero, List.set_cons_succ]
      refine wpAnyH_take (i := 4) (v := .int .i64 n) rfl (by kernel_rfl) (by kernel_rfl) (by kernel_rfl) (fun _ _ _ h => h) (Or.inl ⟨by kernel_rfl, fun w hS => by have hS1 := hS.1; have hS2 := hS.2.1; go_simp⟩) hd ?_
      change wpAnyH _ _ _ _ _ _ _ (Act.put _ (some 9) (.int .i64 n)) _
      simp only [Act.put, List.setIfInBounds_toArray, List.set_cons_zero, List.set_cons_succ]
      refine wpAnyH_take (i := 5) (v := .string r) rfl (by kernel_rfl) (by kernel_rfl) (by kernel_rfl) (fun _ _ _ h => h) (Or.inl ⟨by kernel_rfl, fun w _ => by kernel_rfl⟩) hd ?_
      change wpAnyH _ _ _ _ _ _ _ (Act.put _ (some 10) (.string r)) _
      simp only [Act.put, List.setIfInBounds_toArray, List.set_cons_zero, List.set_cons_succ]
      refine wpAnyH_ready (rs := [6]) (by kernel_rfl) (by simp) ?_
      refine AllReadyH.cons rfl (fun K hK => ?_) AllReadyH.nil
      go_simp
      go_at_call 121
      refine (HN.out _).mono ?_
      rintro e w1 ⟨he, rfl⟩
      rw [HE.out] at he
      subst he
      refine hK.out _ _ hd (fun _ => ?_)
      refine wpAnyH_ready (rs := [7]) (by kernel_rfl) (by simp) ?_
      refine AllReadyH.cons rfl (fun K hK => ?_) AllReadyH.nil
      go_simp
      go_at_call 124
      refine (HC.out _).mono ?_
      rintro e w1 ⟨rfl, rfl⟩
      refine hK.out _ _ hd (fun _ => ?_)
      refine wpAnyH_take (i := 8) (v := .int .i64 m) rfl (by kernel_rfl) (by kernel_rfl) (by kernel_rfl) (fun _ _ _ h => h) (Or.inl ⟨by kernel_rfl, fun w _ => by kernel_rfl⟩) hd ?_
      change wpAnyH _ _ _ _ _ _ _ (Act.put _ (some 13) (.int .i64 m)) _
      simp only [Act.put, List.setIfInBounds_toArray, List.set_cons_zero, List.set_cons_succ]
      refine wpAnyH_take (i := 9) (v := .bool false) rfl (by kernel_rfl) (by kernel_rfl) (by kernel_rfl) (fun _ _ _ h => h) (Or.inl ⟨by kernel_rfl, fun w _ => by kernel_rfl⟩) hd ?_
      change wpAnyH _ _ _ _ _ _ _ (Act.put _ (some 14) (.bool false)) _
      simp only [Act.put, List.setIfInBounds_toArray, List.set_cons_zero, List.set_cons_succ]
      refine wpAnyH_ready (rs := [10]) (by kernel_rfl) (by simp) ?_
      refine AllReadyH.cons rfl (fun K hK => ?_) AllReadyH.nil
      go_simp
      go_at_call 122
      refine (HBe.out _ hd).mono ?_
      rintro e w1 ⟨he, rfl⟩
      unfold fault at he
      subst he
      exact ⟨rfl, .inr rfl, say_below HB.out (Below.refl _ _).drew⟩
    · have HBe := Lib.hid (fun W (h : Bch W pb n) => become_yes pb n m W h)
      clear hb hB hT hr
      go_enter Tryz.func82, Tryz.ntmps82
      go_wp2_with fail
      go_region_with (first
        | (go_at_call 121; refine (HN.out _).mono ?_; rintro e w1 ⟨he, rfl⟩; rw [HE.out] at he; subst he)
        | (go_at_call 124; refine (HC.out _).mono ?_; rintro e w1 ⟨rfl, rfl⟩)
        | (go_at_call 122; refine (HBe.out _ (Bch.drew HB.out)).mono ?_; rintro e w1 ⟨rfl, rfl⟩))
      all_goals
        go_wp2_with fail
        go_ret
        exact ⟨.inl rfl, below_setB m (Below.refl _ _).drew HB.out.lt⟩
end Go.Proofs.YtcfhfllcdliaoaaGreatDoor
/- The program's lines: answer, with its deferred function that takes what a line is left with. -/
namespace Go.Proofs.YtcfhfllcdliaoaaGreatDoor
open Go.RowKit Go.Maps
set_option linter.unusedVariables false
set_option linter.unusedSimpArgs false
attribute [local irreducible] octS cN octF syn nearL farI

theorem assertYes (s : ByteArray) (xT : TypeId) (W : World) : (Instr.typeAssert (.iface 76 (.string s)) xT 76 true).run Tryz.prog W = .ok (.tuple #[.string s, .bool true]) W := by kernel_rfl
theorem assertNo (xT : TypeId) (W : World) : (Instr.typeAssert .nilIface xT 76 true).run Tryz.prog W = .ok (.tuple #[.string ByteArray.empty, .bool false]) W := by kernel_rfl

/-! ### The deferred function -/
theorem catch_panicking (p : Addr) (x s : ByteArray) (older : List PanicEntry) (w : World) (hc : w.cell? p = some (.string x)) (hz : w.frozen? p = false) :
    CallsD Tryz.prog 54 #[.pointer (some p)] (.panicking ({ v := .iface 76 (.string s), recovered := false } :: older)) w fun e u' w' =>
      e = .returned (.tuple #[]) ∧ u' = .panicking ({ v := .iface 76 (.string s), recovered := true } :: older) ∧ w' = w.setCell p (.string s) := by
  have ha := assertYes s
  refine callsD_of_wpS Tryz.func54 rfl fun c₀ cs hu => ?_
  apply wpS_seq
  apply wpS_region
  simp [wpOpsS, go_sem, recoverD, hu, Tryz.ntmps54, Exit.thenS, ha]
  apply wpS_seq
  apply wpS_region
  simp [wpOpsS, go_sem, Exit.thenS]
  refine wpS_cond (t := true) (by simp [Act.eval, Array.replicate]) ?_
  simp only [if_true]
  apply wpS_region
  simp [wpOpsS, go_sem, hc, hz, bodyPostS, results, Tryz.results54]
theorem catch_idle (p : Addr) (w : World) :
    CallsD Tryz.prog 54 #[.pointer (some p)] .returning w fun e u' w' => e = .returned (.tuple #[]) ∧ u' = .returning ∧ w' = w := by
  have ha := assertNo
  refine callsD_of_wpS Tryz.func54 rfl fun c₀ cs hu => ?_
  apply wpS_seq
  apply wpS_region
  simp [wpOpsS, go_sem, recoverD, hu, Tryz.ntmps54, Exit.thenS, ha]
  apply wpS_seq
  apply wpS_region
  simp [wpOpsS, go_sem, Exit.thenS]
  refine wpS_cond (t := false) (by simp [Act.eval, Array.replicate]) ?_
  simp only [Bool.false_eq_true, if_false]
  refine wpS_of_wp (wp_skip ?_)
  cases c₀
  simp_all [bodyPostS, results, Tryz.results54]

/-! ### A line -/
theorem cut_calls (s : ByteArray) (w : World) (hs : s.size ≤ 4096) (hm : TabM w) :
    Calls Tryz.prog 55 #[.string s, .string ⟨#[32]⟩] w fun e w' => e = .returned (.tuple #[.string (BA (Lib.cut s.data.toList [32]).1), .string (BA (Lib.cut s.data.toList [32]).2.1), .bool (Lib.cut s.data.toList [32]).2.2]) ∧ ∃ n, w' = w.drewN n := by
  obtain ⟨m, hm⟩ := hm
  exact Tryz.strings_Cut s ⟨#[32]⟩ m w (by omega) hm
theorem cell_setB {w : World} {pb : Nat} (m : Int) {p : Addr} (h : p.block ≠ pb) : (setB w pb m).cell? p = w.cell? p := by
  unfold World.cell?
  rw [setB_other m h]
theorem frozen_setB {w : World} {pb : Nat} (m : Int) {p : Addr} (h : p.block ≠ pb) : (setB w pb m).frozen? p = w.frozen? p := by
  unfold World.frozen?
  rw [setB_other m h]
/-- The variable of the answer, and what else a line stands on. -/
structure Sta (w0 w : World) (pb : Nat) (n : Int) : Prop where
  below : Below w0.heap.size w0 w
  lt : w0.heap.size < w.heap.size
  cell : w.cell? ⟨w0.heap.size, 0, none⟩ = some (.string ⟨#[]⟩)
  free : w.frozen? ⟨w0.heap.size, 0, none⟩ = false
  bch : Bch w pb n
  tab : TabX w
theorem Sta.next {w0 w w' : World} {pb : Nat} {n : Int} (h : Sta w0 w pb n) (hb : Below w.heap.size w w') : Sta w0 w' pb n :=
  ⟨h.below.trans (hb.mono h.below.size), Nat.lt_of_lt_of_le h.lt hb.size, (hb.cell (p := ⟨w0.heap.size, 0, none⟩) h.lt).trans h.cell, (frozen_below hb (p := ⟨w0.heap.size, 0, none⟩) h.lt).trans h.free, h.bch.below hb, h.tab.keep hb⟩
theorem sta_start (w : World) (k : Nat) (pb : Nat) (n : Int) (hB : Bch w pb n) (hT : TabX w) : Sta w ((w.alloc (.cells #[.string ⟨#[]⟩] 9)).drewN k) pb n := by
  have hb : Below w.heap.size w ((w.alloc (.cells #[.string ⟨#[]⟩] 9)).drewN k) := ((Below.refl _ _).alloc (Nat.le_refl _) _).trans ⟨rfl, rfl, rfl, Nat.le_refl _, fun _ _ => rfl⟩
  refine ⟨hb, ?_, ?_, ?_, hB.below hb, hT.keep hb⟩
  · show w.heap.size < (w.alloc _).heap.size
    rw [alloc_size]; omega
  · show (w.alloc _).cell? _ = _
    rw [Lib.cell_of_heap (heap_alloc_new w _)]
    rfl
  · show (w.alloc _).frozen? _ = _
    exact Lib.frozen_of_heap (heap_alloc_new w _) 0
/-- Behind the method: the variable, and the world but for the bench. -/
theorem Sta.behind {w0 w w' : World} {pb : Nat} {n : Int} (h : Sta w0 w pb n) (hp : pb < w0.heap.size) (m : Int) (hb : Below w.heap.size (setB w pb m) w') :
    w'.cell? ⟨w0.heap.size, 0, none⟩ = some (.string ⟨#[]⟩) ∧ w'.frozen? ⟨w0.heap.size, 0, none⟩ = false ∧ Below w0.heap.size (setB w0 pb m) w' := by
  have hne : (⟨w0.heap.size, 0, none⟩ : Addr).block ≠ pb := by show w0.heap.size ≠ pb; omega
  exact ⟨(hb.cell (p := ⟨w0.heap.size, 0, none⟩) h.lt).trans ((cell_setB m hne).trans h.cell), (frozen_below hb (p := ⟨w0.heap.size, 0, none⟩) h.lt).trans ((frozen_setB m hne).trans h.free),
    (below_setB m h.below hp).trans (hb.mono (by have := h.below.size; exact this))⟩
set_option maxHeartbeats 4000000 in
theorem answer_show (pb : Nat) (n : Int) (l : ByteArray) (w : World) (hB : Bch w pb n) (hn : IsW n) (hT : TabX w) (hl : l.size ≤ 4096) (h : Lib.cut l.data.toList [32] = (wShow, [], false)) :
    Calls Tryz.prog 33 #[.pointer (some ⟨pb, 0, none⟩), .string l] w fun e w' => e = .returned (.string (BA (n, bareA n wShow).2)) ∧ Below w.heap.size (setB w pb (n, bareA n wShow).1) w' := by
  have hmf : ∀ (fn : Fn) (first cap : Array Value) (W : World), (Instr.makeFunc fn first cap).run Tryz.prog W = .ok (.func fn first cap) W := fun _ _ _ _ => rfl
  have HC := Lib.hid (fun W hm => cut_calls l W hl hm)
  rw [h] at HC
  have HS := Lib.hid (fun k => sta_start w k pb n hB hT)
  have HP := Lib.hid hB.lt
  have HK := Lib.hid (fun W (h : Sta w W pb n) => show_calls pb n W h.bch hn h.tab)
  obtain ⟨⟨m, o⟩, ho⟩ : ∃ d, (n, bareA n wShow) = d := ⟨_, rfl⟩
  rw [ho] at HK ⊢
  clear hB hn hT hl h ho
  show Calls Tryz.prog 33 #[.pointer (some ⟨pb, 0, none⟩), .string l] w fun e w' => e = .returned (.string (BA o)) ∧ Below w.heap.size (setB w pb m) w'
  go_enter_defers Tryz.func33, Tryz.ntmps33
  go_wp2_with fail
  refine (HC.out _ (show TabM (w.alloc (.cells #[.string ⟨#[]⟩] 9)) from (HS.out 0).tab.2.2)).mono ?_
  rintro e w1 ⟨rfl, kk, hw⟩
  have h1 := HS.out kk
  rw [← hw] at h1
  have H1 := Lib.hid h1
  clear hw h1 HS HC
  go_wp2_with fail
  refine (bareCommands_calls _).mono ?_
  rintro e w2 ⟨rfl, hown, b2⟩
  have H2 := Lib.hid (H1.out.next b2)
  have HO := Lib.hid hown
  clear b2 hown
  go_wp2_with fail
  refine (commandB_yes wShow 87 _ _ (by decide) HO.out bare_show).mono ?_
  rintro e w' ⟨rfl, rfl⟩
  go_wp2_with fail
  refine (HK.out _ H2.out).mono ?_
  rintro e w3 ⟨he, hb3⟩
  obtain ⟨c3, f3, h4⟩ := H2.out.behind HP.out m hb3
  have hb4 := Lib.hid h4
  clear hb3 h4
  rcases he with rfl | he
  · skip
    go_wp2_with fail
    refine leaves_cons (f := 54) (args := #[.pointer (some ⟨w.heap.size, 0, none⟩)]) (by simp) (by simp [go_sem]) ?_
    refine (catch_idle ⟨w.heap.size, 0, none⟩ _).mono ?_
    rintro e u' w'' ⟨rfl, rfl, rfl⟩
    simp [Leaves, settle, results, Tryz.results33, go_sem, c3]
    exact hb4.out.setCell (p := ⟨w.heap.size, 0, none⟩) (Nat.le_refl _) _
  · skip
    unfold fault at he
    subst he
    go_wp2_with fail
    refine leaves_cons (f := 54) (args := #[.pointer (some ⟨w.heap.size, 0, none⟩)]) (by simp) (by simp [go_sem]) ?_
    refine (catch_panicking ⟨w.heap.size, 0, none⟩ ⟨#[]⟩ (BA o) [] _ c3 f3).mono ?_
    rintro e u' w'' ⟨rfl, rfl, rfl⟩
    simp [Leaves, settle, results, Tryz.results33, go_sem, c3]
    exact hb4.out.setCell (p := ⟨w.heap.size, 0, none⟩) (Nat.le_refl _) _
set_option maxHeartbeats 4000000 in
theorem answer_places (pb : Nat) (n : Int) (l : ByteArray) (w : World) (hB : Bch w pb n) (hn : IsW n) (hT : TabX w) (hl : l.size ≤ 4096) (h : Lib.cut l.data.toList [32] = (wPlaces, [], false)) :
    Calls Tryz.prog 33 #[.pointer (some ⟨pb, 0, none⟩), .string l] w fun e w' => e = .returned (.string (BA (n, bareA n wPlaces).2)) ∧ Below w.heap.size (setB w pb (n, bareA n wPlaces).1) w' := by
  have hmf : ∀ (fn : Fn) (first cap : Array Value) (W : World), (Instr.makeFunc fn first cap).run Tryz.prog W = .ok (.func fn first cap) W := fun _ _ _ _ => rfl
  have HC := Lib.hid (fun W hm => cut_calls l W hl hm)
  rw [h] at HC
  have HS := Lib.hid (fun k => sta_start w k pb n hB hT)
  have HP := Lib.hid hB.lt
  have HK := Lib.hid (fun W (h : Sta w W pb n) => places_calls pb n W h.bch hn h.tab)
  obtain ⟨⟨m, o⟩, ho⟩ : ∃ d, (n, bareA n wPlaces) = d := ⟨_, rfl⟩
  rw [ho] at HK ⊢
  clear hB hn hT hl h ho
  show Calls Tryz.prog 33 #[.pointer (some ⟨pb, 0, none⟩), .string l] w fun e w' => e = .returned (.string (BA o)) ∧ Below w.heap.size (setB w pb m) w'
  go_enter_defers Tryz.func33, Tryz.ntmps33
  go_wp2_with fail
  refine (HC.out _ (show TabM (w.alloc (.cells #[.string ⟨#[]⟩] 9)) from (HS.out 0).tab.2.2)).mono ?_
  rintro e w1 ⟨rfl, kk, hw⟩
  have h1 := HS.out kk
  rw [← hw] at h1
  have H1 := Lib.hid h1
  clear hw h1 HS HC
  go_wp2_with fail
  refine (bareCommands_calls _).mono ?_
  rintro e w2 ⟨rfl, hown, b2⟩
  have H2 := Lib.hid (H1.out.next b2)
  have HO := Lib.hid hown
  clear b2 hown
  go_wp2_with fail
  refine (commandB_yes wPlaces 88 _ _ (by decide) HO.out bare_places).mono ?_
  rintro e w' ⟨rfl, rfl⟩
  go_wp2_with fail
  refine (HK.out _ H2.out).mono ?_
  rintro e w3 ⟨he, hb3⟩
  obtain ⟨c3, f3, h4⟩ := H2.out.behind HP.out m hb3
  have hb4 := Lib.hid h4
  clear hb3 h4
  rcases he with rfl | he
  · skip
    go_wp2_with fail
    refine leaves_cons (f := 54) (args := #[.pointer (some ⟨w.heap.size, 0, none⟩)]) (by simp) (by simp [go_sem]) ?_
    refine (catch_idle ⟨w.heap.size, 0, none⟩ _).mono ?_
    rintro e u' w'' ⟨rfl, rfl, rfl⟩
    simp [Leaves, settle, results, Tryz.results33, go_sem, c3]
    exact hb4.out.setCell (p := ⟨w.heap.size, 0, none⟩) (Nat.le_refl _) _
  · skip
    unfold fault at he
    subst he
    go_wp2_with fail
    refine leaves_cons (f := 54) (args := #[.pointer (some ⟨w.heap.size, 0, none⟩)]) (by simp) (by simp [go_sem]) ?_
    refine (catch_panicking ⟨w.heap.size, 0, none⟩ ⟨#[]⟩ (BA o) [] _ c3 f3).mono ?_
    rintro e u' w'' ⟨rfl, rfl, rfl⟩
    simp [Leaves, settle, results, Tryz.results33, go_sem, c3]
    exact hb4.out.setCell (p := ⟨w.heap.size, 0, none⟩) (Nat.le_refl _) _
set_option maxHeartbeats 4000000 in
theorem answer_weight (pb : Nat) (n : Int) (l : ByteArray) (w : World) (hB : Bch w pb n) (hn : IsW n) (hT : TabX w) (hl : l.size ≤ 4096) (h : Lib.cut l.data.toList [32] = (wWeight, [], false)) :
    Calls Tryz.prog 33 #[.pointer (some ⟨pb, 0, none⟩), .string l] w fun e w' => e = .returned (.string (BA (n, bareA n wWeight).2)) ∧ Below w.heap.size (setB w pb (n, bareA n wWeight).1) w' := by
  have hmf : ∀ (fn : Fn) (first cap : Array Value) (W : World), (Instr.makeFunc fn first cap).run Tryz.prog W = .ok (.func fn first cap) W := fun _ _ _ _ => rfl
  have HC := Lib.hid (fun W hm => cut_calls l W hl hm)
  rw [h] at HC
  have HS := Lib.hid (fun k => sta_start w k pb n hB hT)
  have HP := Lib.hid hB.lt
  have HK := Lib.hid (fun W (h : Sta w W pb n) => weight_calls pb n W h.bch hn h.tab)
  obtain ⟨⟨m, o⟩, ho⟩ : ∃ d, (n, bareA n wWeight) = d := ⟨_, rfl⟩
  rw [ho] at HK ⊢
  clear hB hn hT hl h ho
  show Calls Tryz.prog 33 #[.pointer (some ⟨pb, 0, none⟩), .string l] w fun e w' => e = .returned (.string (BA o)) ∧ Below w.heap.size (setB w pb m) w'
  go_enter_defers Tryz.func33, Tryz.ntmps33
  go_wp2_with fail
  refine (HC.out _ (show TabM (w.alloc (.cells #[.string ⟨#[]⟩] 9)) from (HS.out 0).tab.2.2)).mono ?_
  rintro e w1 ⟨rfl, kk, hw⟩
  have h1 := HS.out kk
  rw [← hw] at h1
  have H1 := Lib.hid h1
  clear hw h1 HS HC
  go_wp2_with fail
  refine (bareCommands_calls _).mono ?_
  rintro e w2 ⟨rfl, hown, b2⟩
  have H2 := Lib.hid (H1.out.next b2)
  have HO := Lib.hid hown
  clear b2 hown
  go_wp2_with fail
  refine (commandB_yes wWeight 89 _ _ (by decide) HO.out bare_weight).mono ?_
  rintro e w' ⟨rfl, rfl⟩
  go_wp2_with fail
  refine (HK.out _ H2.out).mono ?_
  rintro e w3 ⟨he, hb3⟩
  obtain ⟨c3, f3, h4⟩ := H2.out.behind HP.out m hb3
  have hb4 := Lib.hid h4
  clear hb3 h4
  rcases he with rfl | he
  · skip
    go_wp2_with fail
    refine leaves_cons (f := 54) (args := #[.pointer (some ⟨w.heap.size, 0, none⟩)]) (by simp) (by simp [go_sem]) ?_
    refine (catch_idle ⟨w.heap.size, 0, none⟩ _).mono ?_
    rintro e u' w'' ⟨rfl, rfl, rfl⟩
    simp [Leaves, settle, results, Tryz.results33, go_sem, c3]
    exact hb4.out.setCell (p := ⟨w.heap.size, 0, none⟩) (Nat.le_refl _) _
  · skip
    unfold fault at he
    subst he
    go_wp2_with fail
    refine leaves_cons (f := 54) (args := #[.pointer (some ⟨w.heap.size, 0, none⟩)]) (by simp) (by simp [go_sem]) ?_
    refine (catch_panicking ⟨w.heap.size, 0, none⟩ ⟨#[]⟩ (BA o) [] _ c3 f3).mono ?_
    rintro e u' w'' ⟨rfl, rfl, rfl⟩
    simp [Leaves, settle, results, Tryz.results33, go_sem, c3]
    exact hb4.out.setCell (p := ⟨w.heap.size, 0, none⟩) (Nat.le_refl _) _
set_option maxHeartbeats 4000000 in
theorem answer_scores (pb : Nat) (n : Int) (l : ByteArray) (w : World) (hB : Bch w pb n) (hn : IsW n) (hT : TabX w) (hl : l.size ≤ 4096) (h : Lib.cut l.data.toList [32] = (wScores, [], false)) :
    Calls Tryz.prog 33 #[.pointer (some ⟨pb, 0, none⟩), .string l] w fun e w' => e = .returned (.string (BA (n, bareA n wScores).2)) ∧ Below w.heap.size (setB w pb (n, bareA n wScores).1) w' := by
  have hmf : ∀ (fn : Fn) (first cap : Array Value) (W : World), (Instr.makeFunc fn first cap).run Tryz.prog W = .ok (.func fn first cap) W := fun _ _ _ _ => rfl
  have HC := Lib.hid (fun W hm => cut_calls l W hl hm)
  rw [h] at HC
  have HS := Lib.hid (fun k => sta_start w k pb n hB hT)
  have HP := Lib.hid hB.lt
  have HK := Lib.hid (fun W (h : Sta w W pb n) => scores_calls pb n W h.bch hn h.tab)
  obtain ⟨⟨m, o⟩, ho⟩ : ∃ d, (n, bareA n wScores) = d := ⟨_, rfl⟩
  rw [ho] at HK ⊢
  clear hB hn hT hl h ho
  show Calls Tryz.prog 33 #[.pointer (some ⟨pb, 0, none⟩), .string l] w fun e w' => e = .returned (.string (BA o)) ∧ Below w.heap.size (setB w pb m) w'
  go_enter_defers Tryz.func33, Tryz.ntmps33
  go_wp2_with fail
  refine (HC.out _ (show TabM (w.alloc (.cells #[.string ⟨#[]⟩] 9)) from (HS.out 0).tab.2.2)).mono ?_
  rintro e w1 ⟨rfl, kk, hw⟩
  have h1 := HS.out kk
  rw [← hw] at h1
  have H1 := Lib.hid h1
  clear hw h1 HS HC
  go_wp2_with fail
  refine (bareCommands_calls _).mono ?_
  rintro e w2 ⟨rfl, hown, b2⟩
  have H2 := Lib.hid (H1.out.next b2)
  have HO := Lib.hid hown
  clear b2 hown
  go_wp2_with fail
  refine (commandB_yes wScores 90 _ _ (by decide) HO.out bare_scores).mono ?_
  rintro e w' ⟨rfl, rfl⟩
  go_wp2_with fail
  refine (HK.out _ H2.out).mono ?_
  rintro e w3 ⟨he, hb3⟩
  obtain ⟨c3, f3, h4⟩ := H2.out.behind HP.out m hb3
  have hb4 := Lib.hid h4
  clear hb3 h4
  rcases he with rfl | he
  · skip
    go_wp2_with fail
    refine leaves_cons (f := 54) (args := #[.pointer (some ⟨w.heap.size, 0, none⟩)]) (by simp) (by simp [go_sem]) ?_
    refine (catch_idle ⟨w.heap.size, 0, none⟩ _).mono ?_
    rintro e u' w'' ⟨rfl, rfl, rfl⟩
    simp [Leaves, settle, results, Tryz.results33, go_sem, c3]
    exact hb4.out.setCell (p := ⟨w.heap.size, 0, none⟩) (Nat.le_refl _) _
  · skip
    unfold fault at he
    subst he
    go_wp2_with fail
    refine leaves_cons (f := 54) (args := #[.pointer (some ⟨w.heap.size, 0, none⟩)]) (by simp) (by simp [go_sem]) ?_
    refine (catch_panicking ⟨w.heap.size, 0, none⟩ ⟨#[]⟩ (BA o) [] _ c3 f3).mono ?_
    rintro e u' w'' ⟨rfl, rfl, rfl⟩
    simp [Leaves, settle, results, Tryz.results33, go_sem, c3]
    exact hb4.out.setCell (p := ⟨w.heap.size, 0, none⟩) (Nat.le_refl _) _
set_option maxHeartbeats 4000000 in
theorem answer_in (pb : Nat) (n : Int) (l : ByteArray) (w : World) (hB : Bch w pb n) (hn : IsW n) (hT : TabX w) (hl : l.size ≤ 4096) (h : Lib.cut l.data.toList [32] = (wIn, [], false)) :
    Calls Tryz.prog 33 #[.pointer (some ⟨pb, 0, none⟩), .string l] w fun e w' => e = .returned (.string (BA (n, bareA n wIn).2)) ∧ Below w.heap.size (setB w pb (n, bareA n wIn).1) w' := by
  have hmf : ∀ (fn : Fn) (first cap : Array Value) (W : World), (Instr.makeFunc fn first cap).run Tryz.prog W = .ok (.func fn first cap) W := fun _ _ _ _ => rfl
  have HC := Lib.hid (fun W hm => cut_calls l W hl hm)
  rw [h] at HC
  have HS := Lib.hid (fun k => sta_start w k pb n hB hT)
  have HP := Lib.hid hB.lt
  have HK := Lib.hid (fun W (h : Sta w W pb n) => in_calls pb n W h.bch hn h.tab)
  obtain ⟨⟨m, o⟩, ho⟩ : ∃ d, (n, bareA n wIn) = d := ⟨_, rfl⟩
  rw [ho] at HK ⊢
  clear hB hn hT hl h ho
  show Calls Tryz.prog 33 #[.pointer (some ⟨pb, 0, none⟩), .string l] w fun e w' => e = .returned (.string (BA o)) ∧ Below w.heap.size (setB w pb m) w'
  go_enter_defers Tryz.func33, Tryz.ntmps33
  go_wp2_with fail
  refine (HC.out _ (show TabM (w.alloc (.cells #[.string ⟨#[]⟩] 9)) from (HS.out 0).tab.2.2)).mono ?_
  rintro e w1 ⟨rfl, kk, hw⟩
  have h1 := HS.out kk
  rw [← hw] at h1
  have H1 := Lib.hid h1
  clear hw h1 HS HC
  go_wp2_with fail
  refine (bareCommands_calls _).mono ?_
  rintro e w2 ⟨rfl, hown, b2⟩
  have H2 := Lib.hid (H1.out.next b2)
  have HO := Lib.hid hown
  clear b2 hown
  go_wp2_with fail
  refine (commandB_yes wIn 91 _ _ (by decide) HO.out bare_in).mono ?_
  rintro e w' ⟨rfl, rfl⟩
  go_wp2_with fail
  refine (HK.out _ H2.out).mono ?_
  rintro e w3 ⟨he, hb3⟩
  obtain ⟨c3, f3, h4⟩ := H2.out.behind HP.out m hb3
  have hb4 := Lib.hid h4
  clear hb3 h4
  rcases he with rfl | he
  · skip
    go_wp2_with fail
    refine leaves_cons (f := 54) (args := #[.pointer (some ⟨w.heap.size, 0, none⟩)]) (by simp) (by simp [go_sem]) ?_
    refine (catch_idle ⟨w.heap.size, 0, none⟩ _).mono ?_
    rintro e u' w'' ⟨rfl, rfl, rfl⟩
    simp [Leaves, settle, results, Tryz.results33, go_sem, c3]
    exact hb4.out.setCell (p := ⟨w.heap.size, 0, none⟩) (Nat.le_refl _) _
  · skip
    unfold fault at he
    subst he
    go_wp2_with fail
    refine leaves_cons (f := 54) (args := #[.pointer (some ⟨w.heap.size, 0, none⟩)]) (by simp) (by simp [go_sem]) ?_
    refine (catch_panicking ⟨w.heap.size, 0, none⟩ ⟨#[]⟩ (BA o) [] _ c3 f3).mono ?_
    rintro e u' w'' ⟨rfl, rfl, rfl⟩
    simp [Leaves, settle, results, Tryz.results33, go_sem, c3]
    exact hb4.out.setCell (p := ⟨w.heap.size, 0, none⟩) (Nat.le_refl _) _
set_option maxHeartbeats 4000000 in
theorem answer_mend (pb : Nat) (n : Int) (l : ByteArray) (w : World) (hB : Bch w pb n) (hn : IsW n) (hT : TabX w) (hl : l.size ≤ 4096) (h : Lib.cut l.data.toList [32] = (wMend, [], false)) :
    Calls Tryz.prog 33 #[.pointer (some ⟨pb, 0, none⟩), .string l] w fun e w' => e = .returned (.string (BA (doneA n (cMend n)).2)) ∧ Below w.heap.size (setB w pb (doneA n (cMend n)).1) w' := by
  have hmf : ∀ (fn : Fn) (first cap : Array Value) (W : World), (Instr.makeFunc fn first cap).run Tryz.prog W = .ok (.func fn first cap) W := fun _ _ _ _ => rfl
  have HC := Lib.hid (fun W hm => cut_calls l W hl hm)
  rw [h] at HC
  have HS := Lib.hid (fun k => sta_start w k pb n hB hT)
  have HP := Lib.hid hB.lt
  have HK := Lib.hid (fun W (h : Sta w W pb n) => mend_calls pb n W h.bch hn h.tab)
  obtain ⟨⟨m, o⟩, ho⟩ : ∃ d, (doneA n (cMend n)) = d := ⟨_, rfl⟩
  rw [ho] at HK ⊢
  clear hB hn hT hl h ho
  show Calls Tryz.prog 33 #[.pointer (some ⟨pb, 0, none⟩), .string l] w fun e w' => e = .returned (.string (BA o)) ∧ Below w.heap.size (setB w pb m) w'
  go_enter_defers Tryz.func33, Tryz.ntmps33
  go_wp2_with fail
  refine (HC.out _ (show TabM (w.alloc (.cells #[.string ⟨#[]⟩] 9)) from (HS.out 0).tab.2.2)).mono ?_
  rintro e w1 ⟨rfl, kk, hw⟩
  have h1 := HS.out kk
  rw [← hw] at h1
  have H1 := Lib.hid h1
  clear hw h1 HS HC
  go_wp2_with fail
  refine (bareCommands_calls _).mono ?_
  rintro e w2 ⟨rfl, hown, b2⟩
  have H2 := Lib.hid (H1.out.next b2)
  have HO := Lib.hid hown
  clear b2 hown
  go_wp2_with fail
  refine (commandB_yes wMend 92 _ _ (by decide) HO.out bare_mend).mono ?_
  rintro e w' ⟨rfl, rfl⟩
  go_wp2_with fail
  refine (HK.out _ H2.out).mono ?_
  rintro e w3 ⟨he, hb3⟩
  obtain ⟨c3, f3, h4⟩ := H2.out.behind HP.out m hb3
  have hb4 := Lib.hid h4
  clear hb3 h4
  rcases he with rfl | he
  · skip
    go_wp2_with fail
    refine leaves_cons (f := 54) (args := #[.pointer (some ⟨w.heap.size, 0, none⟩)]) (by simp) (by simp [go_sem]) ?_
    refine (catch_idle ⟨w.heap.size, 0, none⟩ _).mono ?_
    rintro e u' w'' ⟨rfl, rfl, rfl⟩
    simp [Leaves, settle, results, Tryz.results33, go_sem, c3]
    exact hb4.out.setCell (p := ⟨w.heap.size, 0, none⟩) (Nat.le_refl _) _
  · skip
    unfold fault at he
    subst he
    go_wp2_with fail
    refine leaves_cons (f := 54) (args := #[.pointer (some ⟨w.heap.size, 0, none⟩)]) (by simp) (by simp [go_sem]) ?_
    refine (catch_panicking ⟨w.heap.size, 0, none⟩ ⟨#[]⟩ (BA o) [] _ c3 f3).mono ?_
    rintro e u' w'' ⟨rfl, rfl, rfl⟩
    simp [Leaves, settle, results, Tryz.results33, go_sem, c3]
    exact hb4.out.setCell (p := ⟨w.heap.size, 0, none⟩) (Nat.le_refl _) _
set_option maxHeartbeats 4000000 in
theorem answer_near (pb : Nat) (n : Int) (l : ByteArray) (w : World) (hB : Bch w pb n) (hn : IsW n) (hT : TabX w) (hl : l.size ≤ 4096) (h : Lib.cut l.data.toList [32] = (wNear, [], false)) :
    Calls Tryz.prog 33 #[.pointer (some ⟨pb, 0, none⟩), .string l] w fun e w' => e = .returned (.string (BA (n, bareA n wNear).2)) ∧ Below w.heap.size (setB w pb (n, bareA n wNear).1) w' := by
  have hmf : ∀ (fn : Fn) (first cap : Array Value) (W : World), (Instr.makeFunc fn first cap).run Tryz.prog W = .ok (.func fn first cap) W := fun _ _ _ _ => rfl
  have HC := Lib.hid (fun W hm => cut_calls l W hl hm)
  rw [h] at HC
  have HS := Lib.hid (fun k => sta_start w k pb n hB hT)
  have HP := Lib.hid hB.lt
  have HK := Lib.hid (fun W (h : Sta w W pb n) => near_calls pb n W h.bch hn h.tab)
  obtain ⟨⟨m, o⟩, ho⟩ : ∃ d, (n, bareA n wNear) = d := ⟨_, rfl⟩
  rw [ho] at HK ⊢
  clear hB hn hT hl h ho
  show Calls Tryz.prog 33 #[.pointer (some ⟨pb, 0, none⟩), .string l] w fun e w' => e = .returned (.string (BA o)) ∧ Below w.heap.size (setB w pb m) w'
  go_enter_defers Tryz.func33, Tryz.ntmps33
  go_wp2_with fail
  refine (HC.out _ (show TabM (w.alloc (.cells #[.string ⟨#[]⟩] 9)) from (HS.out 0).tab.2.2)).mono ?_
  rintro e w1 ⟨rfl, kk, hw⟩
  have h1 := HS.out kk
  rw [← hw] at h1
  have H1 := Lib.hid h1
  clear hw h1 HS HC
  go_wp2_with fail
  refine (bareCommands_calls _).mono ?_
  rintro e w2 ⟨rfl, hown, b2⟩
  have H2 := Lib.hid (H1.out.next b2)
  have HO := Lib.hid hown
  clear b2 hown
  go_wp2_with fail
  refine (commandB_yes wNear 93 _ _ (by decide) HO.out bare_near).mono ?_
  rintro e w' ⟨rfl, rfl⟩
  go_wp2_with fail
  refine (HK.out _ H2.out).mono ?_
  rintro e w3 ⟨he, hb3⟩
  obtain ⟨c3, f3, h4⟩ := H2.out.behind HP.out m hb3
  have hb4 := Lib.hid h4
  clear hb3 h4
  rcases he with rfl | he
  · skip
    go_wp2_with fail
    refine leaves_cons (f := 54) (args := #[.pointer (some ⟨w.heap.size, 0, none⟩)]) (by simp) (by simp [go_sem]) ?_
    refine (catch_idle ⟨w.heap.size, 0, none⟩ _).mono ?_
    rintro e u' w'' ⟨rfl, rfl, rfl⟩
    simp [Leaves, settle, results, Tryz.results33, go_sem, c3]
    exact hb4.out.setCell (p := ⟨w.heap.size, 0, none⟩) (Nat.le_refl _) _
  · skip
    unfold fault at he
    subst he
    go_wp2_with fail
    refine leaves_cons (f := 54) (args := #[.pointer (some ⟨w.heap.size, 0, none⟩)]) (by simp) (by simp [go_sem]) ?_
    refine (catch_panicking ⟨w.heap.size, 0, none⟩ ⟨#[]⟩ (BA o) [] _ c3 f3).mono ?_
    rintro e u' w'' ⟨rfl, rfl, rfl⟩
    simp [Leaves, settle, results, Tryz.results33, go_sem, c3]
    exact hb4.out.setCell (p := ⟨w.heap.size, 0, none⟩) (Nat.le_refl _) _
set_option maxHeartbeats 4000000 in
theorem answer_sextet (pb : Nat) (n : Int) (l : ByteArray) (w : World) (hB : Bch w pb n) (hn : IsW n) (hT : TabX w) (hl : l.size ≤ 4096) (h : Lib.cut l.data.toList [32] = (wSextet, [], false)) :
    Calls Tryz.prog 33 #[.pointer (some ⟨pb, 0, none⟩), .string l] w fun e w' => e = .returned (.string (BA (n, bareA n wSextet).2)) ∧ Below w.heap.size (setB w pb (n, bareA n wSextet).1) w' := by
  have hmf : ∀ (fn : Fn) (first cap : Array Value) (W : World), (Instr.makeFunc fn first cap).run Tryz.prog W = .ok (.func fn first cap) W := fun _ _ _ _ => rfl
  have HC := Lib.hid (fun W hm => cut_calls l W hl hm)
  rw [h] at HC
  have HS := Lib.hid (fun k => sta_start w k pb n hB hT)
  have HP := Lib.hid hB.lt
  have HK := Lib.hid (fun W (h : Sta w W pb n) => sextet_calls pb n W h.bch hn h.tab)
  obtain ⟨⟨m, o⟩, ho⟩ : ∃ d, (n, bareA n wSextet) = d := ⟨_, rfl⟩
  rw [ho] at HK ⊢
  clear hB hn hT hl h ho
  show Calls Tryz.prog 33 #[.pointer (some ⟨pb, 0, none⟩), .string l] w fun e w' => e = .returned (.string (BA o)) ∧ Below w.heap.size (setB w pb m) w'
  go_enter_defers Tryz.func33, Tryz.ntmps33
  go_wp2_with fail
  refine (HC.out _ (show TabM (w.alloc (.cells #[.string ⟨#[]⟩] 9)) from (HS.out 0).tab.2.2)).mono ?_
  rintro e w1 ⟨rfl, kk, hw⟩
  have h1 := HS.out kk
  rw [← hw] at h1
  have H1 := Lib.hid h1
  clear hw h1 HS HC
  go_wp2_with fail
  refine (bareCommands_calls _).mono ?_
  rintro e w2 ⟨rfl, hown, b2⟩
  have H2 := Lib.hid (H1.out.next b2)
  have HO := Lib.hid hown
  clear b2 hown
  go_wp2_with fail
  refine (commandB_yes wSextet 94 _ _ (by decide) HO.out bare_sextet).mono ?_
  rintro e w' ⟨rfl, rfl⟩
  go_wp2_with fail
  refine (HK.out _ H2.out).mono ?_
  rintro e w3 ⟨he, hb3⟩
  obtain ⟨c3, f3, h4⟩ := H2.out.behind HP.out m hb3
  have hb4 := Lib.hid h4
  clear hb3 h4
  rcases he with rfl | he
  · skip
    go_wp2_with fail
    refine leaves_cons (f := 54) (args := #[.pointer (some ⟨w.heap.size, 0, none⟩)]) (by simp) (by simp [go_sem]) ?_
    refine (catch_idle ⟨w.heap.size, 0, none⟩ _).mono ?_
    rintro e u' w'' ⟨rfl, rfl, rfl⟩
    simp [Leaves, settle, results, Tryz.results33, go_sem, c3]
    exact hb4.out.setCell (p := ⟨w.heap.size, 0, none⟩) (Nat.le_refl _) _
  · skip
    unfold fault at he
    subst he
    go_wp2_with fail
    refine leaves_cons (f := 54) (args := #[.pointer (some ⟨w.heap.size, 0, none⟩)]) (by simp) (by simp [go_sem]) ?_
    refine (catch_panicking ⟨w.heap.size, 0, none⟩ ⟨#[]⟩ (BA o) [] _ c3 f3).mono ?_
    rintro e u' w'' ⟨rfl, rfl, rfl⟩
    simp [Leaves, settle, results, Tryz.results33, go_sem, c3]
    exact hb4.out.setCell (p := ⟨w.heap.size, 0, none⟩) (Nat.le_refl _) _
set_option maxHeartbeats 4000000 in
theorem answer_meet (pb : Nat) (n : Int) (l : ByteArray) (w : World) (hB : Bch w pb n) (hn : IsW n) (hT : TabX w) (hl : l.size ≤ 4096) (h : Lib.cut l.data.toList [32] = (wMeet, [], false)) :
    Calls Tryz.prog 33 #[.pointer (some ⟨pb, 0, none⟩), .string l] w fun e w' => e = .returned (.string (BA (n, bareA n wMeet).2)) ∧ Below w.heap.size (setB w pb (n, bareA n wMeet).1) w' := by
  have hmf : ∀ (fn : Fn) (first cap : Array Value) (W : World), (Instr.makeFunc fn first cap).run Tryz.prog W = .ok (.func fn first cap) W := fun _ _ _ _ => rfl
  have HC := Lib.hid (fun W hm => cut_calls l W hl hm)
  rw [h] at HC
  have HS := Lib.hid (fun k => sta_start w k pb n hB hT)
  have HP := Lib.hid hB.lt
  have HK := Lib.hid (fun W (h : Sta w W pb n) => meet_calls pb n W h.bch hn h.tab)
  obtain ⟨⟨m, o⟩, ho⟩ : ∃ d, (n, bareA n wMeet) = d := ⟨_, rfl⟩
  rw [ho] at HK ⊢
  clear hB hn hT hl h ho
  show Calls Tryz.prog 33 #[.pointer (some ⟨pb, 0, none⟩), .string l] w fun e w' => e = .returned (.string (BA o)) ∧ Below w.heap.size (setB w pb m) w'
  go_enter_defers Tryz.func33, Tryz.ntmps33
  go_wp2_with fail
  refine (HC.out _ (show TabM (w.alloc (.cells #[.string ⟨#[]⟩] 9)) from (HS.out 0).tab.2.2)).mono ?_
  rintro e w1 ⟨rfl, kk, hw⟩
  have h1 := HS.out kk
  rw [← hw] at h1
  have H1 := Lib.hid h1
  clear hw h1 HS HC
  go_wp2_with fail
  refine (bareCommands_calls _).mono ?_
  rintro e w2 ⟨rfl, hown, b2⟩
  have H2 := Lib.hid (H1.out.next b2)
  have HO := Lib.hid hown
  clear b2 hown
  go_wp2_with fail
  refine (commandB_yes wMeet 95 _ _ (by decide) HO.out bare_meet).mono ?_
  rintro e w' ⟨rfl, rfl⟩
  go_wp2_with fail
  refine (HK.out _ H2.out).mono ?_
  rintro e w3 ⟨he, hb3⟩
  obtain ⟨c3, f3, h4⟩ := H2.out.behind HP.out m hb3
  have hb4 := Lib.hid h4
  clear hb3 h4
  rcases he with rfl | he
  · skip
    go_wp2_with fail
    refine leaves_cons (f := 54) (args := #[.pointer (some ⟨w.heap.size, 0, none⟩)]) (by simp) (by simp [go_sem]) ?_
    refine (catch_idle ⟨w.heap.size, 0, none⟩ _).mono ?_
    rintro e u' w'' ⟨rfl, rfl, rfl⟩
    simp [Leaves, settle, results, Tryz.results33, go_sem, c3]
    exact hb4.out.setCell (p := ⟨w.heap.size, 0, none⟩) (Nat.le_refl _) _
  · skip
    unfold fault at he
    subst he
    go_wp2_with fail
    refine leaves_cons (f := 54) (args := #[.pointer (some ⟨w.heap.size, 0, none⟩)]) (by simp) (by simp [go_sem]) ?_
    refine (catch_panicking ⟨w.heap.size, 0, none⟩ ⟨#[]⟩ (BA o) [] _ c3 f3).mono ?_
    rintro e u' w'' ⟨rfl, rfl, rfl⟩
    simp [Leaves, settle, results, Tryz.results33, go_sem, c3]
    exact hb4.out.setCell (p := ⟨w.heap.size, 0, none⟩) (Nat.le_refl _) _
set_option maxHeartbeats 4000000 in
theorem answer_set (pb : Nat) (n : Int) (l : ByteArray) (r : ByteArray) (w : World) (hB : Bch w pb n) (hn : IsW n) (hT : TabX w) (hl : l.size ≤ 4096) (hr : r.size ≤ 4096) (h : Lib.cut l.data.toList [32] = (wSet, r.data.toList, true)) :
    Calls Tryz.prog 33 #[.pointer (some ⟨pb, 0, none⟩), .string l] w fun e w' => e = .returned (.string (BA (doneA n (oneA r, wordB (oneA r))).2)) ∧ Below w.heap.size (setB w pb (doneA n (oneA r, wordB (oneA r))).1) w' := by
  have hmf : ∀ (fn : Fn) (first cap : Array Value) (W : World), (Instr.makeFunc fn first cap).run Tryz.prog W = .ok (.func fn first cap) W := fun _ _ _ _ => rfl
  have HC := Lib.hid (fun W hm => cut_calls l W hl hm)
  rw [h, show BA r.data.toList = r from rfl] at HC
  have HS := Lib.hid (fun k => sta_start w k pb n hB hT)
  have HP := Lib.hid hB.lt
  have HK := Lib.hid (fun W (h : Sta w W pb n) => set_calls pb n r W h.bch hn h.tab hr)
  obtain ⟨⟨m, o⟩, ho⟩ : ∃ d, (doneA n (oneA r, wordB (oneA r))) = d := ⟨_, rfl⟩
  rw [ho] at HK ⊢
  clear hB hn hT hl h ho
  show Calls Tryz.prog 33 #[.pointer (some ⟨pb, 0, none⟩), .string l] w fun e w' => e = .returned (.string (BA o)) ∧ Below w.heap.size (setB w pb m) w'
  go_enter_defers Tryz.func33, Tryz.ntmps33
  go_wp2_with fail
  refine (HC.out _ (show TabM (w.alloc (.cells #[.string ⟨#[]⟩] 9)) from (HS.out 0).tab.2.2)).mono ?_
  rintro e w1 ⟨rfl, kk, hw⟩
  have h1 := HS.out kk
  rw [← hw] at h1
  have H1 := Lib.hid h1
  clear hw h1 HS HC
  go_wp2_with fail
  refine (restCommands_calls _).mono ?_
  rintro e w2 ⟨rfl, hown, b2⟩
  have H2 := Lib.hid (H1.out.next b2)
  have HO := Lib.hid hown
  clear b2 hown
  go_wp2_with fail
  refine (commandR_yes wSet 81 _ _ (by decide) HO.out rest_set).mono ?_
  rintro e w' ⟨rfl, rfl⟩
  go_wp2_with fail
  refine (HK.out _ H2.out).mono ?_
  rintro e w3 ⟨he, hb3⟩
  obtain ⟨c3, f3, h4⟩ := H2.out.behind HP.out m hb3
  have hb4 := Lib.hid h4
  clear hb3 h4
  rcases he with rfl | he
  · skip
    go_wp2_with fail
    refine leaves_cons (f := 54) (args := #[.pointer (some ⟨w.heap.size, 0, none⟩)]) (by simp) (by simp [go_sem]) ?_
    refine (catch_idle ⟨w.heap.size, 0, none⟩ _).mono ?_
    rintro e u' w'' ⟨rfl, rfl, rfl⟩
    simp [Leaves, settle, results, Tryz.results33, go_sem, c3]
    exact hb4.out.setCell (p := ⟨w.heap.size, 0, none⟩) (Nat.le_refl _) _
  · skip
    unfold fault at he
    subst he
    go_wp2_with fail
    refine leaves_cons (f := 54) (args := #[.pointer (some ⟨w.heap.size, 0, none⟩)]) (by simp) (by simp [go_sem]) ?_
    refine (catch_panicking ⟨w.heap.size, 0, none⟩ ⟨#[]⟩ (BA o) [] _ c3 f3).mono ?_
    rintro e u' w'' ⟨rfl, rfl, rfl⟩
    simp [Leaves, settle, results, Tryz.results33, go_sem, c3]
    exact hb4.out.setCell (p := ⟨w.heap.size, 0, none⟩) (Nat.le_refl _) _
set_option maxHeartbeats 4000000 in
theorem answer_add (pb : Nat) (n : Int) (l : ByteArray) (r : ByteArray) (w : World) (hB : Bch w pb n) (hn : IsW n) (hT : TabX w) (hl : l.size ≤ 4096) (hr : r.size ≤ 4096) (h : Lib.cut l.data.toList [32] = (wAdd, r.data.toList, true)) :
    Calls Tryz.prog 33 #[.pointer (some ⟨pb, 0, none⟩), .string l] w fun e w' => e = .returned (.string (BA (doneA n (addA n (oneA r))).2)) ∧ Below w.heap.size (setB w pb (doneA n (addA n (oneA r))).1) w' := by
  have hmf : ∀ (fn : Fn) (first cap : Array Value) (W : World), (Instr.makeFunc fn first cap).run Tryz.prog W = .ok (.func fn first cap) W := fun _ _ _ _ => rfl
  have HC := Lib.hid (fun W hm => cut_calls l W hl hm)
  rw [h, show BA r.data.toList = r from rfl] at HC
  have HS := Lib.hid (fun k => sta_start w k pb n hB hT)
  have HP := Lib.hid hB.lt
  have HK := Lib.hid (fun W (h : Sta w W pb n) => add_calls pb n r W h.bch hn h.tab hr)
  obtain ⟨⟨m, o⟩, ho⟩ : ∃ d, (doneA n (addA n (oneA r))) = d := ⟨_, rfl⟩
  rw [ho] at HK ⊢
  clear hB hn hT hl h ho
  show Calls Tryz.prog 33 #[.pointer (some ⟨pb, 0, none⟩), .string l] w fun e w' => e = .returned (.string (BA o)) ∧ Below w.heap.size (setB w pb m) w'
  go_enter_defers Tryz.func33, Tryz.ntmps33
  go_wp2_with fail
  refine (HC.out _ (show TabM (w.alloc (.cells #[.string ⟨#[]⟩] 9)) from (HS.out 0).tab.2.2)).mono ?_
  rintro e w1 ⟨rfl, kk, hw⟩
  have h1 := HS.out kk
  rw [← hw] at h1
  have H1 := Lib.hid h1
  clear hw h1 HS HC
  go_wp2_with fail
  refine (restCommands_calls _).mono ?_
  rintro e w2 ⟨rfl, hown, b2⟩
  have H2 := Lib.hid (H1.out.next b2)
  have HO := Lib.hid hown
  clear b2 hown
  go_wp2_with fail
  refine (commandR_yes wAdd 82 _ _ (by decide) HO.out rest_add).mono ?_
  rintro e w' ⟨rfl, rfl⟩
  go_wp2_with fail
  refine (HK.out _ H2.out).mono ?_
  rintro e w3 ⟨he, hb3⟩
  obtain ⟨c3, f3, h4⟩ := H2.out.behind HP.out m hb3
  have hb4 := Lib.hid h4
  clear hb3 h4
  rcases he with rfl | he
  · skip
    go_wp2_with fail
    refine leaves_cons (f := 54) (args := #[.pointer (some ⟨w.heap.size, 0, none⟩)]) (by simp) (by simp [go_sem]) ?_
    refine (catch_idle ⟨w.heap.size, 0, none⟩ _).mono ?_
    rintro e u' w'' ⟨rfl, rfl, rfl⟩
    simp [Leaves, settle, results, Tryz.results33, go_sem, c3]
    exact hb4.out.setCell (p := ⟨w.heap.size, 0, none⟩) (Nat.le_refl _) _
  · skip
    unfold fault at he
    subst he
    go_wp2_with fail
    refine leaves_cons (f := 54) (args := #[.pointer (some ⟨w.heap.size, 0, none⟩)]) (by simp) (by simp [go_sem]) ?_
    refine (catch_panicking ⟨w.heap.size, 0, none⟩ ⟨#[]⟩ (BA o) [] _ c3 f3).mono ?_
    rintro e u' w'' ⟨rfl, rfl, rfl⟩
    simp [Leaves, settle, results, Tryz.results33, go_sem, c3]
    exact hb4.out.setCell (p := ⟨w.heap.size, 0, none⟩) (Nat.le_refl _) _
set_option maxHeartbeats 4000000 in
theorem answer_read (pb : Nat) (n : Int) (l : ByteArray) (r : ByteArray) (w : World) (hB : Bch w pb n) (hn : IsW n) (hT : TabX w) (hl : l.size ≤ 4096) (hr : r.size ≤ 4096) (h : Lib.cut l.data.toList [32] = (wRead, r.data.toList, true)) :
    Calls Tryz.prog 33 #[.pointer (some ⟨pb, 0, none⟩), .string l] w fun e w' => e = .returned (.string (BA (doneA n (rdA r)).2)) ∧ Below w.heap.size (setB w pb (doneA n (rdA r)).1) w' := by
  have hmf : ∀ (fn : Fn) (first cap : Array Value) (W : World), (Instr.makeFunc fn first cap).run Tryz.prog W = .ok (.func fn first cap) W := fun _ _ _ _ => rfl
  have HC := Lib.hid (fun W hm => cut_calls l W hl hm)
  rw [h, show BA r.data.toList = r from rfl] at HC
  have HS := Lib.hid (fun k => sta_start w k pb n hB hT)
  have HP := Lib.hid hB.lt
  have HK := Lib.hid (fun W (h : Sta w W pb n) => read_calls pb n r W h.bch hn h.tab hr)
  obtain ⟨⟨m, o⟩, ho⟩ : ∃ d, (doneA n (rdA r)) = d := ⟨_, rfl⟩
  rw [ho] at HK ⊢
  clear hB hn hT hl h ho
  show Calls Tryz.prog 33 #[.pointer (some ⟨pb, 0, none⟩), .string l] w fun e w' => e = .returned (.string (BA o)) ∧ Below w.heap.size (setB w pb m) w'
  go_enter_defers Tryz.func33, Tryz.ntmps33
  go_wp2_with fail
  refine (HC.out _ (show TabM (w.alloc (.cells #[.string ⟨#[]⟩] 9)) from (HS.out 0).tab.2.2)).mono ?_
  rintro e w1 ⟨rfl, kk, hw⟩
  have h1 := HS.out kk
  rw [← hw] at h1
  have H1 := Lib.hid h1
  clear hw h1 HS HC
  go_wp2_with fail
  refine (restCommands_calls _).mono ?_
  rintro e w2 ⟨rfl, hown, b2⟩
  have H2 := Lib.hid (H1.out.next b2)
  have HO := Lib.hid hown
  clear b2 hown
  go_wp2_with fail
  refine (commandR_yes wRead 83 _ _ (by decide) HO.out rest_read).mono ?_
  rintro e w' ⟨rfl, rfl⟩
  go_wp2_with fail
  refine (HK.out _ H2.out).mono ?_
  rintro e w3 ⟨he, hb3⟩
  obtain ⟨c3, f3, h4⟩ := H2.out.behind HP.out m hb3
  have hb4 := Lib.hid h4
  clear hb3 h4
  rcases he with rfl | he
  · skip
    go_wp2_with fail
    refine leaves_cons (f := 54) (args := #[.pointer (some ⟨w.heap.size, 0, none⟩)]) (by simp) (by simp [go_sem]) ?_
    refine (catch_idle ⟨w.heap.size, 0, none⟩ _).mono ?_
    rintro e u' w'' ⟨rfl, rfl, rfl⟩
    simp [Leaves, settle, results, Tryz.results33, go_sem, c3]
    exact hb4.out.setCell (p := ⟨w.heap.size, 0, none⟩) (Nat.le_refl _) _
  · skip
    unfold fault at he
    subst he
    go_wp2_with fail
    refine leaves_cons (f := 54) (args := #[.pointer (some ⟨w.heap.size, 0, none⟩)]) (by simp) (by simp [go_sem]) ?_
    refine (catch_panicking ⟨w.heap.size, 0, none⟩ ⟨#[]⟩ (BA o) [] _ c3 f3).mono ?_
    rintro e u' w'' ⟨rfl, rfl, rfl⟩
    simp [Leaves, settle, results, Tryz.results33, go_sem, c3]
    exact hb4.out.setCell (p := ⟨w.heap.size, 0, none⟩) (Nat.le_refl _) _
set_option maxHeartbeats 4000000 in
theorem answer_code (pb : Nat) (n : Int) (l : ByteArray) (r : ByteArray) (w : World) (hB : Bch w pb n) (hn : IsW n) (hT : TabX w) (hl : l.size ≤ 4096) (hr : r.size ≤ 4096) (h : Lib.cut l.data.toList [32] = (wCode, r.data.toList, true)) :
    Calls Tryz.prog 33 #[.pointer (some ⟨pb, 0, none⟩), .string l] w fun e w' => e = .returned (.string (BA (doneA n (cOf (oneA r))).2)) ∧ Below w.heap.size (setB w pb (doneA n (cOf (oneA r))).1) w' := by
  have hmf : ∀ (fn : Fn) (first cap : Array Value) (W : World), (Instr.makeFunc fn first cap).run Tryz.prog W = .ok (.func fn first cap) W := fun _ _ _ _ => rfl
  have HC := Lib.hid (fun W hm => cut_calls l W hl hm)
  rw [h, show BA r.data.toList = r from rfl] at HC
  have HS := Lib.hid (fun k => sta_start w k pb n hB hT)
  have HP := Lib.hid hB.lt
  have HK := Lib.hid (fun W (h : Sta w W pb n) => code_calls pb n r W h.bch hn h.tab hr)
  obtain ⟨⟨m, o⟩, ho⟩ : ∃ d, (doneA n (cOf (oneA r))) = d := ⟨_, rfl⟩
  rw [ho] at HK ⊢
  clear hB hn hT hl h ho
  show Calls Tryz.prog 33 #[.pointer (some ⟨pb, 0, none⟩), .string l] w fun e w' => e = .returned (.string (BA o)) ∧ Below w.heap.size (setB w pb m) w'
  go_enter_defers Tryz.func33, Tryz.ntmps33
  go_wp2_with fail
  refine (HC.out _ (show TabM (w.alloc (.cells #[.string ⟨#[]⟩] 9)) from (HS.out 0).tab.2.2)).mono ?_
  rintro e w1 ⟨rfl, kk, hw⟩
  have h1 := HS.out kk
  rw [← hw] at h1
  have H1 := Lib.hid h1
  clear hw h1 HS HC
  go_wp2_with fail
  refine (restCommands_calls _).mono ?_
  rintro e w2 ⟨rfl, hown, b2⟩
  have H2 := Lib.hid (H1.out.next b2)
  have HO := Lib.hid hown
  clear b2 hown
  go_wp2_with fail
  refine (commandR_yes wCode 84 _ _ (by decide) HO.out rest_code).mono ?_
  rintro e w' ⟨rfl, rfl⟩
  go_wp2_with fail
  refine (HK.out _ H2.out).mono ?_
  rintro e w3 ⟨he, hb3⟩
  obtain ⟨c3, f3, h4⟩ := H2.out.behind HP.out m hb3
  have hb4 := Lib.hid h4
  clear hb3 h4
  rcases he with rfl | he
  · skip
    go_wp2_with fail
    refine leaves_cons (f := 54) (args := #[.pointer (some ⟨w.heap.size, 0, none⟩)]) (by simp) (by simp [go_sem]) ?_
    refine (catch_idle ⟨w.heap.size, 0, none⟩ _).mono ?_
    rintro e u' w'' ⟨rfl, rfl, rfl⟩
    simp [Leaves, settle, results, Tryz.results33, go_sem, c3]
    exact hb4.out.setCell (p := ⟨w.heap.size, 0, none⟩) (Nat.le_refl _) _
  · skip
    unfold fault at he
    subst he
    go_wp2_with fail
    refine leaves_cons (f := 54) (args := #[.pointer (some ⟨w.heap.size, 0, none⟩)]) (by simp) (by simp [go_sem]) ?_
    refine (catch_panicking ⟨w.heap.size, 0, none⟩ ⟨#[]⟩ (BA o) [] _ c3 f3).mono ?_
    rintro e u' w'' ⟨rfl, rfl, rfl⟩
    simp [Leaves, settle, results, Tryz.results33, go_sem, c3]
    exact hb4.out.setCell (p := ⟨w.heap.size, 0, none⟩) (Nat.le_refl _) _
set_option maxHeartbeats 4000000 in
theorem answer_octad (pb : Nat) (n : Int) (l : ByteArray) (r : ByteArray) (w : World) (hB : Bch w pb n) (hn : IsW n) (hT : TabX w) (hl : l.size ≤ 4096) (hr : r.size ≤ 4096) (h : Lib.cut l.data.toList [32] = (wOctad, r.data.toList, true)) :
    Calls Tryz.prog 33 #[.pointer (some ⟨pb, 0, none⟩), .string l] w fun e w' => e = .returned (.string (BA (doneA n (if (numsS r 5).2 then oThrough (numsS r 5).1 else (0, false))).2)) ∧ Below w.heap.size (setB w pb (doneA n (if (numsS r 5).2 then oThrough (numsS r 5).1 else (0, false))).1) w' := by
  have hmf : ∀ (fn : Fn) (first cap : Array Value) (W : World), (Instr.makeFunc fn first cap).run Tryz.prog W = .ok (.func fn first cap) W := fun _ _ _ _ => rfl
  have HC := Lib.hid (fun W hm => cut_calls l W hl hm)
  rw [h, show BA r.data.toList = r from rfl] at HC
  have HS := Lib.hid (fun k => sta_start w k pb n hB hT)
  have HP := Lib.hid hB.lt
  have HK := Lib.hid (fun W (h : Sta w W pb n) => octad_calls pb n r W h.bch hn h.tab hr)
  obtain ⟨⟨m, o⟩, ho⟩ : ∃ d, (doneA n (if (numsS r 5).2 then oThrough (numsS r 5).1 else (0, false))) = d := ⟨_, rfl⟩
  rw [ho] at HK ⊢
  clear hB hn hT hl h ho
  show Calls Tryz.prog 33 #[.pointer (some ⟨pb, 0, none⟩), .string l] w fun e w' => e = .returned (.string (BA o)) ∧ Below w.heap.size (setB w pb m) w'
  go_enter_defers Tryz.func33, Tryz.ntmps33
  go_wp2_with fail
  refine (HC.out _ (show TabM (w.alloc (.cells #[.string ⟨#[]⟩] 9)) from (HS.out 0).tab.2.2)).mono ?_
  rintro e w1 ⟨rfl, kk, hw⟩
  have h1 := HS.out kk
  rw [← hw] at h1
  have H1 := Lib.hid h1
  clear hw h1 HS HC
  go_wp2_with fail
  refine (restCommands_calls _).mono ?_
  rintro e w2 ⟨rfl, hown, b2⟩
  have H2 := Lib.hid (H1.out.next b2)
  have HO := Lib.hid hown
  clear b2 hown
  go_wp2_with fail
  refine (commandR_yes wOctad 85 _ _ (by decide) HO.out rest_octad).mono ?_
  rintro e w' ⟨rfl, rfl⟩
  go_wp2_with fail
  refine (HK.out _ H2.out).mono ?_
  rintro e w3 ⟨he, hb3⟩
  obtain ⟨c3, f3, h4⟩ := H2.out.behind HP.out m hb3
  have hb4 := Lib.hid h4
  clear hb3 h4
  rcases he with rfl | he
  · skip
    go_wp2_with fail
    refine leaves_cons (f := 54) (args := #[.pointer (some ⟨w.heap.size, 0, none⟩)]) (by simp) (by simp [go_sem]) ?_
    refine (catch_idle ⟨w.heap.size, 0, none⟩ _).mono ?_
    rintro e u' w'' ⟨rfl, rfl, rfl⟩
    simp [Leaves, settle, results, Tryz.results33, go_sem, c3]
    exact hb4.out.setCell (p := ⟨w.heap.size, 0, none⟩) (Nat.le_refl _) _
  · skip
    unfold fault at he
    subst he
    go_wp2_with fail
    refine leaves_cons (f := 54) (args := #[.pointer (some ⟨w.heap.size, 0, none⟩)]) (by simp) (by simp [go_sem]) ?_
    refine (catch_panicking ⟨w.heap.size, 0, none⟩ ⟨#[]⟩ (BA o) [] _ c3 f3).mono ?_
    rintro e u' w'' ⟨rfl, rfl, rfl⟩
    simp [Leaves, settle, results, Tryz.results33, go_sem, c3]
    exact hb4.out.setCell (p := ⟨w.heap.size, 0, none⟩) (Nat.le_refl _) _
set_option maxHeartbeats 4000000 in
theorem answer_line (pb : Nat) (n : Int) (l : ByteArray) (r : ByteArray) (w : World) (hB : Bch w pb n) (hn : IsW n) (hT : TabX w) (hl : l.size ≤ 4096) (hr : r.size ≤ 4096) (h : Lib.cut l.data.toList [32] = (wLine, r.data.toList, true)) :
    Calls Tryz.prog 33 #[.pointer (some ⟨pb, 0, none⟩), .string l] w fun e w' => e = .returned (.string (BA (doneA n (lwI (oneA r))).2)) ∧ Below w.heap.size (setB w pb (doneA n (lwI (oneA r))).1) w' := by
  have hmf : ∀ (fn : Fn) (first cap : Array Value) (W : World), (Instr.makeFunc fn first cap).run Tryz.prog W = .ok (.func fn first cap) W := fun _ _ _ _ => rfl
  have HC := Lib.hid (fun W hm => cut_calls l W hl hm)
  rw [h, show BA r.data.toList = r from rfl] at HC
  have HS := Lib.hid (fun k => sta_start w k pb n hB hT)
  have HP := Lib.hid hB.lt
  have HK := Lib.hid (fun W (h : Sta w W pb n) => line_calls pb n r W h.bch hn h.tab hr)
  obtain ⟨⟨m, o⟩, ho⟩ : ∃ d, (doneA n (lwI (oneA r))) = d := ⟨_, rfl⟩
  rw [ho] at HK ⊢
  clear hB hn hT hl h ho
  show Calls Tryz.prog 33 #[.pointer (some ⟨pb, 0, none⟩), .string l] w fun e w' => e = .returned (.string (BA o)) ∧ Below w.heap.size (setB w pb m) w'
  go_enter_defers Tryz.func33, Tryz.ntmps33
  go_wp2_with fail
  refine (HC.out _ (show TabM (w.alloc (.cells #[.string ⟨#[]⟩] 9)) from (HS.out 0).tab.2.2)).mono ?_
  rintro e w1 ⟨rfl, kk, hw⟩
  have h1 := HS.out kk
  rw [← hw] at h1
  have H1 := Lib.hid h1
  clear hw h1 HS HC
  go_wp2_with fail
  refine (restCommands_calls _).mono ?_
  rintro e w2 ⟨rfl, hown, b2⟩
  have H2 := Lib.hid (H1.out.next b2)
  have HO := Lib.hid hown
  clear b2 hown
  go_wp2_with fail
  refine (commandR_yes wLine 86 _ _ (by decide) HO.out rest_line).mono ?_
  rintro e w' ⟨rfl, rfl⟩
  go_wp2_with fail
  refine (HK.out _ H2.out).mono ?_
  rintro e w3 ⟨he, hb3⟩
  obtain ⟨c3, f3, h4⟩ := H2.out.behind HP.out m hb3
  have hb4 := Lib.hid h4
  clear hb3 h4
  rcases he with rfl | he
  · skip
    go_wp2_with fail
    refine leaves_cons (f := 54) (args := #[.pointer (some ⟨w.heap.size, 0, none⟩)]) (by simp) (by simp [go_sem]) ?_
    refine (catch_idle ⟨w.heap.size, 0, none⟩ _).mono ?_
    rintro e u' w'' ⟨rfl, rfl, rfl⟩
    simp [Leaves, settle, results, Tryz.results33, go_sem, c3]
    exact hb4.out.setCell (p := ⟨w.heap.size, 0, none⟩) (Nat.le_refl _) _
  · skip
    unfold fault at he
    subst he
    go_wp2_with fail
    refine leaves_cons (f := 54) (args := #[.pointer (some ⟨w.heap.size, 0, none⟩)]) (by simp) (by simp [go_sem]) ?_
    refine (catch_panicking ⟨w.heap.size, 0, none⟩ ⟨#[]⟩ (BA o) [] _ c3 f3).mono ?_
    rintro e u' w'' ⟨rfl, rfl, rfl⟩
    simp [Leaves, settle, results, Tryz.results33, go_sem, c3]
    exact hb4.out.setCell (p := ⟨w.heap.size, 0, none⟩) (Nat.le_refl _) _
set_option maxHeartbeats 4000000 in
theorem answer_noB (pb : Nat) (n : Int) (l : ByteArray) (u : List UInt8) (w : World) (hB : Bch w pb n) (hn : IsW n) (hT : TabX w) (hl : l.size ≤ 4096) (hu : (BA u).size ≤ 4096) (hno : has (tabD cmdB) (.string u) = false) (h : Lib.cut l.data.toList [32] = (u, [], false)) :
    Calls Tryz.prog 33 #[.pointer (some ⟨pb, 0, none⟩), .string l] w fun e w' => e = .returned (.string (BA (n, aWhat).2)) ∧ Below w.heap.size (setB w pb (n, aWhat).1) w' := by
  have hmf : ∀ (fn : Fn) (first cap : Array Value) (W : World), (Instr.makeFunc fn first cap).run Tryz.prog W = .ok (.func fn first cap) W := fun _ _ _ _ => rfl
  have HC := Lib.hid (fun W hm => cut_calls l W hl hm)
  rw [h] at HC
  have HS := Lib.hid (fun k => sta_start w k pb n hB hT)
  have HP := Lib.hid hB.lt
  clear hB hn hT hl h
  show Calls Tryz.prog 33 #[.pointer (some ⟨pb, 0, none⟩), .string l] w fun e w' => e = .returned (.string (BA aWhat)) ∧ Below w.heap.size (setB w pb n) w'
  go_enter_defers Tryz.func33, Tryz.ntmps33
  go_wp2_with fail
  refine (HC.out _ (show TabM (w.alloc (.cells #[.string ⟨#[]⟩] 9)) from (HS.out 0).tab.2.2)).mono ?_
  rintro e w1 ⟨rfl, kk, hw⟩
  have h1 := HS.out kk
  rw [← hw] at h1
  have H1 := Lib.hid h1
  clear hw h1 HS HC
  go_wp2_with fail
  refine (bareCommands_calls _).mono ?_
  rintro e w2 ⟨rfl, hown, b2⟩
  have H2 := Lib.hid (H1.out.next b2)
  have HO := Lib.hid hown
  clear b2 hown
  go_wp2_with fail
  refine (commandB_no u _ _ hu HO.out hno).mono ?_
  rintro e w' ⟨he, rfl⟩
  obtain ⟨c3, f3, h4⟩ := H2.out.behind HP.out n (setB_self H2.out.bch)
  have hb4 := Lib.hid h4
  clear h4
  unfold fault at he
  subst he
  go_wp2_with fail
  refine leaves_cons (f := 54) (args := #[.pointer (some ⟨w.heap.size, 0, none⟩)]) (by simp) (by simp [go_sem]) ?_
  refine (catch_panicking ⟨w.heap.size, 0, none⟩ ⟨#[]⟩ (BA aWhat) [] _ c3 f3).mono ?_
  rintro e u' w'' ⟨rfl, rfl, rfl⟩
  simp [Leaves, settle, results, Tryz.results33, go_sem, c3]
  exact hb4.out.setCell (p := ⟨w.heap.size, 0, none⟩) (Nat.le_refl _) _
set_option maxHeartbeats 4000000 in
theorem answer_noR (pb : Nat) (n : Int) (l : ByteArray) (u : List UInt8) (r : ByteArray) (w : World) (hB : Bch w pb n) (hn : IsW n) (hT : TabX w) (hl : l.size ≤ 4096) (hu : (BA u).size ≤ 4096) (hno : has (tabD cmdR) (.string u) = false) (h : Lib.cut l.data.toList [32] = (u, r.data.toList, true)) :
    Calls Tryz.prog 33 #[.pointer (some ⟨pb, 0, none⟩), .string l] w fun e w' => e = .returned (.string (BA (n, aWhat).2)) ∧ Below w.heap.size (setB w pb (n, aWhat).1) w' := by
  have hmf : ∀ (fn : Fn) (first cap : Array Value) (W : World), (Instr.makeFunc fn first cap).run Tryz.prog W = .ok (.func fn first cap) W := fun _ _ _ _ => rfl
  have HC := Lib.hid (fun W hm => cut_calls l W hl hm)
  rw [h, show BA r.data.toList = r from rfl] at HC
  have HS := Lib.hid (fun k => sta_start w k pb n hB hT)
  have HP := Lib.hid hB.lt
  clear hB hn hT hl h
  show Calls Tryz.prog 33 #[.pointer (some ⟨pb, 0, none⟩), .string l] w fun e w' => e = .returned (.string (BA aWhat)) ∧ Below w.heap.size (setB w pb n) w'
  go_enter_defers Tryz.func33, Tryz.ntmps33
  go_wp2_with fail
  refine (HC.out _ (show TabM (w.alloc (.cells #[.string ⟨#[]⟩] 9)) from (HS.out 0).tab.2.2)).mono ?_
  rintro e w1 ⟨rfl, kk, hw⟩
  have h1 := HS.out kk
  rw [← hw] at h1
  have H1 := Lib.hid h1
  clear hw h1 HS HC
  go_wp2_with fail
  refine (restCommands_calls _).mono ?_
  rintro e w2 ⟨rfl, hown, b2⟩
  have H2 := Lib.hid (H1.out.next b2)
  have HO := Lib.hid hown
  clear b2 hown
  go_wp2_with fail
  refine (commandR_no u _ _ hu HO.out hno).mono ?_
  rintro e w' ⟨he, rfl⟩
  obtain ⟨c3, f3, h4⟩ := H2.out.behind HP.out n (setB_self H2.out.bch)
  have hb4 := Lib.hid h4
  clear h4
  unfold fault at he
  subst he
  go_wp2_with fail
  refine leaves_cons (f := 54) (args := #[.pointer (some ⟨w.heap.size, 0, none⟩)]) (by simp) (by simp [go_sem]) ?_
  refine (catch_panicking ⟨w.heap.size, 0, none⟩ ⟨#[]⟩ (BA aWhat) [] _ c3 f3).mono ?_
  rintro e u' w'' ⟨rfl, rfl, rfl⟩
  simp [Leaves, settle, results, Tryz.results33, go_sem, c3]
  exact hb4.out.setCell (p := ⟨w.heap.size, 0, none⟩) (Nat.le_refl _) _
end Go.Proofs.YtcfhfllcdliaoaaGreatDoor
/- The program's lines: answer at any line. -/
namespace Go.Proofs.YtcfhfllcdliaoaaGreatDoor
open Go.RowKit Go.Maps
set_option linter.unusedVariables false
set_option linter.unusedSimpArgs false
attribute [local irreducible] octS cN octF syn nearL farI

def AnsW (w : World) (pb : Nat) (c : Int × List UInt8) (e : Ending) (w' : World) : Prop := e = .returned (.string (BA c.2)) ∧ Below w.heap.size (setB w pb c.1) w'
theorem bare_other {n : Int} {u : List UInt8} (h : ∀ p ∈ cmdB, p.1 ≠ u) : bareA n u = aWhat := by
  have hn : ∀ v k, (v, k) ∈ cmdB → ¬ u = v := fun v k hm e => h _ hm e.symm
  rw [bareA_eq]
  rw [if_neg (hn wShow 87 (by simp [cmdB]))]
  rw [if_neg (hn wPlaces 88 (by simp [cmdB]))]
  rw [if_neg (hn wWeight 89 (by simp [cmdB]))]
  rw [if_neg (hn wScores 90 (by simp [cmdB]))]
  rw [if_neg (hn wNear 93 (by simp [cmdB]))]
  rw [if_neg (hn wSextet 94 (by simp [cmdB]))]
  rw [if_neg (hn wMeet 95 (by simp [cmdB]))]
  rw [if_neg (hn wIn 91 (by simp [cmdB]))]
theorem change_other {n : Int} {u : List UInt8} {r : ByteArray} (h : ∀ p ∈ cmdR, p.1 ≠ u) : changeA n u r = (n, false, false) := by
  have hn : ∀ v k, (v, k) ∈ cmdR → ¬ u = v := fun v k hm e => h _ hm e.symm
  rw [changeA_eq]
  rw [if_neg (hn wRead 83 (by simp [cmdR]))]
  rw [if_neg (hn wOctad 85 (by simp [cmdR]))]
  rw [if_neg (hn wSet 81 (by simp [cmdR]))]
  rw [if_neg (hn wAdd 82 (by simp [cmdR]))]
  rw [if_neg (hn wCode 84 (by simp [cmdR]))]
  rw [if_neg (hn wLine 86 (by simp [cmdR]))]
theorem answer_calls (pb : Nat) (n : Int) (l : ByteArray) (w : World) (hB : Bch w pb n) (hn : IsW n) (hT : TabX w) (hl : l.size ≤ 4096) :
    Calls Tryz.prog 33 #[.pointer (some ⟨pb, 0, none⟩), .string l] w (AnsW w pb (lineA n l)) := by
  obtain ⟨C, hC⟩ : ∃ C, Lib.cut l.data.toList [32] = C := ⟨_, rfl⟩
  by_cases hsp : spAt l = l.size
  · have hc := hC.symm.trans (cut_no hsp)
    by_cases hm : l.data.toList = wMend
    · rw [hm] at hc
      rw [lineA_mend hsp hm]
      exact answer_mend pb n l w hB hn hT hl (hC.trans hc)
    rw [lineA_bare hsp hm]
    have hu : (BA l.data.toList).size ≤ 4096 := hl
    generalize l.data.toList = u at hc hm hu ⊢
    by_cases hshow : u = wShow
    · subst hshow
      exact answer_show pb n l w hB hn hT hl (hC.trans hc)
    by_cases hplaces : u = wPlaces
    · subst hplaces
      exact answer_places pb n l w hB hn hT hl (hC.trans hc)
    by_cases hweight : u = wWeight
    · subst hweight
      exact answer_weight pb n l w hB hn hT hl (hC.trans hc)
    by_cases hscores : u = wScores
    · subst hscores
      exact answer_scores pb n l w hB hn hT hl (hC.trans hc)
    by_cases hin : u = wIn
    · subst hin
      exact answer_in pb n l w hB hn hT hl (hC.trans hc)
    by_cases hnear : u = wNear
    · subst hnear
      exact answer_near pb n l w hB hn hT hl (hC.trans hc)
    by_cases hsextet : u = wSextet
    · subst hsextet
      exact answer_sextet pb n l w hB hn hT hl (hC.trans hc)
    by_cases hmeet : u = wMeet
    · subst hmeet
      exact answer_meet pb n l w hB hn hT hl (hC.trans hc)
    have hno : ∀ p ∈ cmdB, p.1 ≠ u := fun p hp e => by
      simp only [cmdB, List.mem_cons, List.not_mem_nil, or_false] at hp
      rcases hp with rfl | rfl | rfl | rfl | rfl | rfl | rfl | rfl | rfl
      · exact hshow e.symm
      · exact hplaces e.symm
      · exact hweight e.symm
      · exact hscores e.symm
      · exact hin e.symm
      · exact hm e.symm
      · exact hnear e.symm
      · exact hsextet e.symm
      · exact hmeet e.symm
    rw [bare_other hno]
    exact answer_noB pb n l u w hB hn hT hl hu (tab_no hno) (hC.trans hc)
  · have hc := hC.symm.trans (cut_yes hsp)
    have hr : (l.extract (spAt l + 1) l.size).size ≤ 4096 := Nat.le_trans (ext_size_le l _ _) hl
    have hu : (BA (l.extract 0 (spAt l)).data.toList).size ≤ 4096 := Nat.le_trans (ext_size_le l 0 (spAt l)) hl
    rw [lineA_rest hsp rfl]
    generalize l.extract (spAt l + 1) l.size = r at *
    generalize (l.extract 0 (spAt l)).data.toList = u at *
    by_cases hset : u = wSet
    · subst hset
      exact answer_set pb n l r w hB hn hT hl hr (hC.trans hc)
    by_cases hadd : u = wAdd
    · subst hadd
      exact answer_add pb n l r w hB hn hT hl hr (hC.trans hc)
    by_cases hread : u = wRead
    · subst hread
      exact answer_read pb n l r w hB hn hT hl hr (hC.trans hc)
    by_cases hcode : u = wCode
    · subst hcode
      exact answer_code pb n l r w hB hn hT hl hr (hC.trans hc)
    by_cases hoctad : u = wOctad
    · subst hoctad
      have hq := answer_octad pb n l r w hB hn hT hl hr (hC.trans hc)
      have hch : changeA n wOctad r = (if (numsS r 5).2 then ((oThrough (numsS r 5).1).1, true, (oThrough (numsS r 5).1).2) else (n, true, false)) := rfl
      rw [hch]
      rcases hb : (numsS r 5).2 with _ | _
      · rw [hb] at hq
        exact hq
      · rw [hb] at hq
        exact hq
    by_cases hline : u = wLine
    · subst hline
      exact answer_line pb n l r w hB hn hT hl hr (hC.trans hc)
    have hno : ∀ p ∈ cmdR, p.1 ≠ u := fun p hp e => by
      simp only [cmdR, List.mem_cons, List.not_mem_nil, or_false] at hp
      rcases hp with rfl | rfl | rfl | rfl | rfl | rfl
      · exact hset e.symm
      · exact hadd e.symm
      · exact hread e.symm
      · exact hcode e.symm
      · exact hoctad e.symm
      · exact hline e.symm
    rw [change_other hno]
    exact answer_noR pb n l u r w hB hn hT hl hu (tab_no hno) (hC.trans hc)
end Go.Proofs.YtcfhfllcdliaoaaGreatDoor
/- The program's scripts: Execute; the builder with a sharper word on what stays. -/
namespace Go.Proofs.YtcfhfllcdliaoaaGreatDoor
open Go.RowKit
open Go.PlainAid (bt get_bt bt_nonneg bt_le)
set_option linter.unusedVariables false
set_option linter.unusedSimpArgs false
attribute [local irreducible] octS cN octF syn nearL farI

/-! ### The builder: what is no row of bytes stays -/
def Stays (b : Nat) (w w' : World) : Prop := ∀ k, k ≠ b → (∀ cs fr, w.heap[k]? ≠ some (.cells cs 5 fr)) → k < w.heap.size → w'.heap[k]? = w.heap[k]?
theorem Stays.refl (b : Nat) (w : World) : Stays b w w := fun _ _ _ _ => rfl
theorem Stays.trans {b : Nat} {w w1 w2 : World} (h : Stays b w w1) (hs : w.heap.size ≤ w1.heap.size) (h' : Stays b w1 w2) : Stays b w w2 := fun k h1 h2 h3 => by
  have e := h k h1 h2 h3
  rw [← e]
  exact h' k h1 (by rw [e]; exact h2) (Nat.lt_of_lt_of_le h3 hs)
theorem stays_set (b : Nat) (w : World) (j : Nat) (v : Value) : Stays b w (w.setCell ⟨b, j, none⟩ v) := fun k h1 _ _ => Below.heap_setCell w ⟨b, j, none⟩ v k h1
theorem stays_grown {b : Nat} {w w' : World} {B n : Nat} {v : Value} {xs : List Value} (hown : w.ownsRow B 5 1 v n xs) (hg : w.grownBy w' v.ownBlock) : Stays b w w' := fun k h1 h2 h3 => by
  refine hg.block k h3 fun e => ?_
  rcases hown.2 with ⟨hv, _⟩ | ⟨g, cap, cur, hv, _, hh, _⟩
  · rw [hv] at e; cases e
  · rw [hv] at e
    have e2 : k = g := Option.some.inj e
    rw [e2] at h2
    exact h2 _ _ hh
theorem copyCheck2 (B b : Nat) (bs : List Value) (w : World) (h : Lib.IsBuilder 42 5 B b bs w) :
    Calls Tryz.prog 53 #[.pointer (some ⟨b, 0, none⟩)] w fun e w' => e = .returned (.tuple #[]) ∧ (Lib.BuilderAt 42 5 B b (.pointer (some ⟨b, 0, none⟩)) bs w' ∧ Below B w w' ∧ Stays b w w') := by
  rcases h with h | h
  · refine (copyCheck_fresh b w h.cell0 h.shape h.frozen0).mono ?_
    rintro e w' ⟨rfl, rfl⟩
    exact ⟨rfl, h.used _, (Below.refl B w).setCell (p := ⟨b, 0, none⟩) h.1 _, stays_set b w 0 _⟩
  · refine (copyCheck_used b w h.cell0).mono ?_
    rintro e w' ⟨rfl, rfl⟩
    exact ⟨rfl, h, Below.refl B _, Stays.refl b _⟩
set_option maxHeartbeats 2000000 in
set_option maxRecDepth 100000 in
theorem writeString2 (B b : Nat) (L M : List UInt8) (w : World) (h : IsBld B b L w) (hlen : L.length + M.length ≤ 1000000000) (hBw : B ≤ w.heap.size) :
    Calls Tryz.prog 32 #[.pointer (some ⟨b, 0, none⟩), .string (BA M)] w fun e w' => e = .returned (.tuple #[.int .i64 (BA M).size, .nilIface]) ∧ IsBld B b (L ++ M) w' ∧ Below B w w' ∧ Stays b w w' := by
  obtain ⟨i0, hi, hz0, hz1, hz2⟩ := info_parts byteInfo
  have hlb := strB_len L
  have hms : (BA M).size = M.length := rfl
  have HS := Lib.hid (strB_app L M)
  unfold IsBld at h ⊢
  generalize BA M = s at *
  generalize strB (L ++ M) = R at *
  generalize strB L = bs at *
  go_enter Tryz.func32, Tryz.ntmps32
  go_wp2_with (go_at_call 53; refine (copyCheck2 B b bs _ h).mono ?_)
  rintro e w1 ⟨rfl, h1, hb1, hs1⟩
  obtain ⟨hB, v, hbk, hown, hne⟩ := h1
  have c0 : w1.cell? ⟨b, 0, none⟩ = some (.pointer (some ⟨b, 0, none⟩)) := by rw [Lib.cell_of_heap hbk]; rfl
  have c1 : w1.cell? ⟨b, 1, none⟩ = some v := by rw [Lib.cell_of_heap hbk]; rfl
  go_wp2_with (at_builtin; refine Lib.wpList_append_own_string _ rfl _ _ 22 9 rfl B 5 i0 Tryz.underlying22 Tryz.underlying9 hi hz0 hz1 hz2 _ _ _ rfl hown s rfl ?c3 ?c4 ?c5 ?_)
  case c3 => unfold maxLen; omega
  case c4 => omega
  case c5 => have := hb1.size; omega
  intro v' w2 hown' hgrow _
  have hlt : b < w1.heap.size := by
    rcases Nat.lt_or_ge b w1.heap.size with h' | h'
    · exact h'
    · simp [Array.getElem?_eq_none h'] at hbk
  have hb2 : w2.heap[b]? = some (.cells #[.pointer (some ⟨b, 0, none⟩), v] 42 (0, 0)) := by
    rw [hgrow.block b hlt (fun e => hne e.symm)]
    exact hbk
  have d0 : w2.cell? ⟨b, 0, none⟩ = some (.pointer (some ⟨b, 0, none⟩)) := by rw [Lib.cell_of_heap hb2]; rfl
  have d1 : w2.cell? ⟨b, 1, none⟩ = some v := by rw [Lib.cell_of_heap hb2]; rfl
  have f1 : w2.frozen? ⟨b, 1, none⟩ = false := Lib.frozen_of_heap hb2 1
  obtain ⟨ao, n', cap, rfl⟩ : ∃ ao n' cap, v' = .slice ao n' cap := by
    rcases hown'.2 with ⟨hv, _⟩ | ⟨g, cap, cur, hv, _⟩
    · exact ⟨_, _, _, hv⟩
    · exact ⟨_, _, _, hv⟩
  go_wp2
  go_ret2
  refine ⟨by rw [hms]; rfl, ?_, ?_, (hs1.trans hb1.size (stays_grown hown hgrow)).trans (Nat.le_trans hb1.size hgrow.size) (stays_set b _ 1 _)⟩
  · rw [← HS.out]
    exact .inr (Lib.BuilderAt.put (T := 42) (e := 5) hB hb2 (bs' := bs ++ Lib.strCells s) (by rw [List.length_append, Lib.strCells_length, hlb, hms]; exact hown') (by decide))
  · exact (hb1.grown hgrow (by have := hb1.size; omega) (fun k hk => (hown.lt k hk).1)).setCell (p := ⟨b, 1, none⟩) hB _
set_option maxHeartbeats 2000000 in
set_option maxRecDepth 100000 in
theorem writeByte2 (B b : Nat) (bs : List Value) (c : Int) (w : World) (h : Lib.IsBuilder 42 5 B b bs w) (hlen : bs.length + 1 ≤ 1000000000) (hBw : B ≤ w.heap.size) :
    Calls Tryz.prog 34 #[.pointer (some ⟨b, 0, none⟩), .int .u8 c] w fun e w' => e = .returned .nilIface ∧ (Lib.BuilderAt 42 5 B b (.pointer (some ⟨b, 0, none⟩)) (bs ++ [.int .u8 c]) w' ∧ Below B w w' ∧ Stays b w w') := by
  obtain ⟨i0, hi, hz0, hz1, hz2⟩ := info_parts byteInfo
  go_enter Tryz.func34, Tryz.ntmps34
  go_wp2_with (go_at_call 53; refine (copyCheck2 B b bs _ h).mono ?_)
  rintro e w1 ⟨rfl, h1, hb1, hs1⟩
  obtain ⟨hB, v, hbk, hown, hne⟩ := h1
  have c0 : w1.cell? ⟨b, 0, none⟩ = some (.pointer (some ⟨b, 0, none⟩)) := by rw [Lib.cell_of_heap hbk]; rfl
  have c1 : w1.cell? ⟨b, 1, none⟩ = some v := by rw [Lib.cell_of_heap hbk]; rfl
  go_wp2_with (at_builtin; refine wpList_append_own _ rfl _ _ 22 rfl B 5 i0 (.int .u8 0) 1 1 Tryz.underlying22 hi hz0 hz1 hz2 rfl (by decide) _ _ _ rfl (hown.alloc _) ⟨w1.heap.size, 0, none⟩ 1 1 [.int .u8 c] rfl rfl ?c1 ?c2 ?c3 ?c4 ?c5 ?_)
  case c1 =>
    intro j u hj
    match j, hj with
    | 0, hj => simp at hj; subst hj; simp [Addr.add]
  case c2 => intro u hu; simp at hu; subst hu; rfl
  case c3 => unfold maxLen; omega
  case c4 => omega
  case c5 => have := hb1.size; simp; omega
  intro v' w2 hown' hgrow _
  have hlt : b < w1.heap.size := by
    rcases Nat.lt_or_ge b w1.heap.size with h' | h'
    · exact h'
    · simp [Array.getElem?_eq_none h'] at hbk
  have hb2 : w2.heap[b]? = some (.cells #[.pointer (some ⟨b, 0, none⟩), v] 42 (0, 0)) := by
    rw [hgrow.block b (by simp; omega) (fun e => hne e.symm), Lib.alloc_old w1 _ b hlt]
    exact hbk
  have d0 : w2.cell? ⟨b, 0, none⟩ = some (.pointer (some ⟨b, 0, none⟩)) := by rw [Lib.cell_of_heap hb2]; rfl
  have d1 : w2.cell? ⟨b, 1, none⟩ = some v := by rw [Lib.cell_of_heap hb2]; rfl
  have f1 : w2.frozen? ⟨b, 1, none⟩ = false := Lib.frozen_of_heap hb2 1
  obtain ⟨g, cap, rfl⟩ : ∃ g cap, v' = .slice (some ⟨g, 0, none⟩) (bs.length + 1) cap := by
    rcases hown'.2 with ⟨_, h0⟩ | ⟨g, cap, cur, hv, _⟩
    · omega
    · exact ⟨g, cap, hv⟩
  go_wp2
  go_ret
  refine ⟨rfl, ?_, ?_, ?_⟩
  · exact Lib.BuilderAt.put (T := 42) (e := 5) hB hb2 (bs' := bs ++ [.int .u8 c]) (by simpa using hown') (by decide)
  · exact ((hb1.alloc (by have := hb1.size; omega) _).grown hgrow (by have := hb1.size; simp; omega) (fun k hk => (hown.lt k hk).1)).setCell (p := ⟨b, 1, none⟩) hB _
  · have hal : Stays b w1 (w1.alloc (.cells #[.int .u8 c] 5)) := fun k _ _ h3 => Lib.alloc_old w1 _ k h3
    exact ((hs1.trans hb1.size hal).trans (Nat.le_trans hb1.size (by rw [alloc_size]; omega)) (stays_grown (hown.alloc _) hgrow)).trans (Nat.le_trans hb1.size (Nat.le_trans (by rw [alloc_size]; omega) hgrow.size)) (stays_set b _ 1 _)
end Go.Proofs.YtcfhfllcdliaoaaGreatDoor
/- The program's scripts: Execute. -/
namespace Go.Proofs.YtcfhfllcdliaoaaGreatDoor
open Go.RowKit
open Go.PlainAid (bt get_bt bt_nonneg bt_le)
set_option linter.unusedVariables false
set_option linter.unusedSimpArgs false
attribute [local irreducible] octS cN octF syn nearL farI

/-- The world of a script: the bench, the builder, the tables. -/
structure Scr (w0 w : World) (n : Int) (L : List UInt8) : Prop where
  below : Below w0.heap.size w0 w
  bch : Bch w w0.heap.size n
  bld : IsBld (w0.heap.size + 1) (w0.heap.size + 1) L w
  tab : TabX w
  lt : w0.heap.size + 1 < w.heap.size
theorem Scr.next {w0 w w' : World} {n : Int} {L : List UInt8} (h : Scr w0 w n L) (hb : Below w.heap.size w w') : Scr w0 w' n L :=
  ⟨h.below.trans (hb.mono h.below.size), h.bch.below hb, h.bld.keep fun k _ hk => hb.block k hk, h.tab.keep hb, Nat.lt_of_lt_of_le h.lt hb.size⟩
theorem Scr.ans {w0 w w' : World} {n m : Int} {L : List UInt8} (h : Scr w0 w n L) (hb : Below w.heap.size (setB w w0.heap.size m) w') : Scr w0 w' m L := by
  have hl := h.lt
  have hbl : Below w0.heap.size w w' := by
    have hb1 : Below w0.heap.size w (setB w w0.heap.size m) := (Below.refl _ _).setCell (p := ⟨w0.heap.size, 0, none⟩) (Nat.le_refl _) _
    exact hb1.trans (hb.mono (by omega))
  refine ⟨h.below.trans hbl, ⟨?_, ?_, h.bch.2.2⟩, h.bld.keep fun k hk hk2 => ?_, h.tab.below hbl h.bch.2.2, ?_⟩
  · rw [hb.cell (p := ⟨w0.heap.size, 0, none⟩) h.bch.lt]
    unfold setB
    exact World.cell?_setCell_same _ _ _ h.bch.1
  · rw [frozen_below hb (p := ⟨w0.heap.size, 0, none⟩) h.bch.lt]
    unfold setB
    rw [World.frozen?_setCell]
    exact h.bch.2.1
  · rw [hb.block k hk2, setB_other m (by omega)]
  · have := hb.size
    rw [setB_size] at this
    omega
theorem Scr.wrote {w0 w w' : World} {n : Int} {L M : List UInt8} (h : Scr w0 w n L) (h' : IsBld (w0.heap.size + 1) (w0.heap.size + 1) M w') (hb : Below (w0.heap.size + 1) w w') : Scr w0 w' n M :=
  ⟨h.below.trans (hb.mono (by omega)), ⟨(hb.cell (p := ⟨w0.heap.size, 0, none⟩) (Nat.lt_succ_self _)).trans h.bch.1, (frozen_below hb (p := ⟨w0.heap.size, 0, none⟩) (Nat.lt_succ_self _)).trans h.bch.2.1, h.bch.2.2⟩, h', h.tab.below hb (by have := h.bch.2.2; omega), Nat.lt_of_lt_of_le h.lt hb.size⟩
/-- The lines lie in a block of strings. -/
def LnsAt (w : World) (g : Nat) (M : List ByteArray) : Prop := g < w.heap.size ∧ (∃ cs, w.heap[g]? = some (.cells cs 9 (0, 0))) ∧ ∀ j, j < M.length → w.cell? ⟨g, j, none⟩ = some (.string (M.getD j ByteArray.empty))
theorem LnsAt.keep {w w' : World} {g : Nat} {M : List ByteArray} (h : LnsAt w g M) (hh : w'.heap[g]? = w.heap[g]?) (hs : w.heap.size ≤ w'.heap.size) : LnsAt w' g M := by
  obtain ⟨h1, h2, h3⟩ := h
  refine ⟨Nat.lt_of_lt_of_le h1 hs, by rw [hh]; exact h2, fun j hj => ?_⟩
  rw [← h3 j hj]
  unfold World.cell?
  rw [hh]
theorem LnsAt.stays {w w' : World} {g b : Nat} {M : List ByteArray} (h : LnsAt w g M) (hn : g ≠ b) (hs : Stays b w w') (hz : w.heap.size ≤ w'.heap.size) : LnsAt w' g M := by
  obtain ⟨cs, hc⟩ := h.2.1
  exact h.keep (hs g hn (fun cs' fr e => by rw [hc] at e; simp at e) h.1) hz
theorem part_len (c : UInt8) : ∀ (l cur : List UInt8), ∀ p ∈ partsAt c l cur, p.length ≤ l.length + cur.length
  | [], _, p, hp => absurd hp (by simp [partsAt])
  | x :: t, cur, p, hp => by
    rw [partsAt_cons] at hp
    split at hp
    · rcases List.mem_cons.1 hp with rfl | hp
      · simp
      · have := part_len c t [] p hp
        simp at this ⊢
        omega
    · have := part_len c t _ p hp
      simp at this ⊢
      omega
theorem scr_start (w : World) (hT : TabX w) : Scr w ((w.alloc (.cells #[.int .i64 0] 39)).alloc (.cells #[.pointer none, .slice none 0 0] 42)) 0 [] := by
  have hb1 : Below w.heap.size w (w.alloc (.cells #[.int .i64 0] 39)) := (Below.refl _ _).alloc (Nat.le_refl _) _
  have hb : Below w.heap.size w ((w.alloc (.cells #[.int .i64 0] 39)).alloc (.cells #[.pointer none, .slice none 0 0] 42)) := hb1.alloc hb1.size _
  have hs : (w.alloc (.cells #[.int .i64 0] 39)).heap.size = w.heap.size + 1 := alloc_size w _
  have hh : ((w.alloc (.cells #[.int .i64 0] 39)).alloc (.cells #[.pointer none, .slice none 0 0] 42)).heap[w.heap.size]? = some (.cells #[.int .i64 0] 39 (0, 0)) := by
    rw [Lib.alloc_old _ _ _ (by omega)]
    exact heap_alloc_new w _
  refine ⟨hb, ⟨?_, ?_, hT.lt⟩, ?_, hT.keep hb, by rw [alloc_size, hs]; omega⟩
  · rw [Lib.cell_of_heap hh]; rfl
  · exact Lib.frozen_of_heap hh 0
  · have := Lib.fresh_isBuilder 42 5 (w.alloc (.cells #[.int .i64 0] 39))
    rw [hs] at this
    exact this
set_option maxHeartbeats 4000000 in
theorem iExecute_calls (s : ByteArray) (w : World) (hs : s.size ≤ maxLen) (hT : TabX w) :
    Calls Tryz.prog 11 #[.string s] w fun e w' => e = .returned (.string (execA s)) ∧ Below w.heap.size w w' := by
  unfold maxLen at hs
  by_cases hbig : 600 < s.size
  · have HE := Lib.hid (show execA s = ⟨#[116, 111, 111, 32, 108, 111, 110, 103, 10]⟩ by unfold execA; rw [if_pos hbig]; rfl)
    have hb : (600 : Int) < (s.size : Int) := by omega
    clear hbig
    go_enter Tryz.func11, Tryz.ntmps11
    go_wp2_with fail
    go_ret
    exact ⟨by rw [HE.out]; rfl, Below.refl _ _⟩
  · have HE := Lib.hid (show execA s = BA ((execR s).2 ++ (wWord ++ (decN (execR s).1.toNat ++ [10]))) by unfold execA; rw [if_neg hbig])
    have hb : ¬ (600 : Int) < (s.size : Int) := by omega
    have hb6 : s.size ≤ 600 := by omega
    have HR := Lib.hid (execR_parts s)
    have HSc := Lib.hid (scr_start w hT)
    have HCL := Lib.hid (fun W h => completeLines_calls s W (by omega) h)
    have HPL := Lib.hid (part_len 10 s.data.toList [])
    have hcount : (partsAt 10 s.data.toList []).length ≤ 600 := by
      rw [partsAt_len]
      have := List.count_le_length (a := (10 : UInt8)) (l := s.data.toList)
      rw [len_list] at this
      omega
    have hln : (linesL s).length = (partsAt 10 s.data.toList []).length := by unfold linesL; rw [List.length_map]
    have HLn := Lib.hid (fun k (hk : k < (partsAt 10 s.data.toList []).length) => show (linesL s).getD k ByteArray.empty = BA ((partsAt 10 s.data.toList []).getD k []) from by
      unfold linesL
      rw [List.getD_eq_getElem?_getD, List.getElem?_map, List.getElem?_eq_getElem hk, List.getD_eq_getElem?_getD, List.getElem?_eq_getElem hk]
      rfl)
    rw [hln] at HCL
    obtain ⟨Ls, hLs⟩ : ∃ Ls, partsAt 10 s.data.toList [] = Ls := ⟨_, rfl⟩
    rw [hLs] at HR HCL HPL hcount hln HLn
    have HS6 := Lib.hid (show s.data.toList.length ≤ 600 from hb6)
    have HCount := Lib.hid hcount
    have HLnl := Lib.hid hln
    clear hbig hLs hT hln
    generalize linesL s = M at *
    generalize execA s = A at *
    generalize execR s = R at *
    go_enter Tryz.func11, Tryz.ntmps11
    go_wp2_with fail
    refine (HCL.out _ HSc.out.tab).mono ?_
    rintro e w1 ⟨rfl, hc, b1, hg, hty⟩
    have HSc1 := Lib.hid (HSc.out.next b1)
    have hgs : ((w.alloc (.cells #[.int .i64 0] 39)).alloc (.cells #[.pointer none, .slice none 0 0] 42)).heap.size = w.heap.size + 2 := by rw [alloc_size, alloc_size]
    rw [hgs] at hc hg hty
    have HLA := Lib.hid (show LnsAt w1 (w.heap.size + 2) M from ⟨hg, hty, fun j hj => hc j (by have := HLnl.out; omega)⟩)
    clear hc hg hty b1 HSc HCL hgs
    go_wp2_with fail
    go_loopw [13] (fun i wr => ∃ (k : Nat) (m : Int) (L : List UInt8), k ≤ Ls.length ∧ i = .int .i64 (k : Int) ∧ Hid (Scr w wr m L) ∧ Hid (LnsAt wr (w.heap.size + 2) M) ∧ Hid ((Ls.take k).foldl runL (0, []) = (m, L)) ∧ Hid (IsW m ∧ L.length ≤ 1000 * k)) (fun i _ => Ls.length - (intOf i).toNat)
    case atStart => exact ⟨0, 0, [], by omega, rfl, HSc1, HLA, Lib.hid rfl, Lib.hid ⟨⟨by decide, by decide⟩, by simp⟩⟩
    case round =>
      obtain ⟨k, m, L, hk, rfl, hsc, hla, hfold, hm⟩ := hrel
      clear HSc1 HLA
      by_cases hlt : k < Ls.length
      · have hk1 : (k : Int) < (Ls.length : Int) := by omega
        have hk0 : (0 : Int) ≤ (k : Int) := by omega
        have hcell := hla.out.2.2 k (by have := HLnl.out; omega)
        rw [HLn.out k hlt] at hcell
        have hmem : Ls.getD k [] ∈ Ls := by
          rw [List.getD_eq_getElem?_getD, List.getElem?_eq_getElem hlt]
          exact List.getElem_mem hlt
        have hpl : (Ls.getD k []).length ≤ s.data.toList.length := HPL.out _ hmem
        have HF2 := Lib.hid (show (Ls.take (k + 1)).foldl runL (0, []) = runL (m, L) (Ls.getD k []) from by
          rw [List.take_succ_eq_append_getElem hlt, List.foldl_append, hfold.out, List.getD_eq_getElem?_getD, List.getElem?_eq_getElem hlt]
          rfl)
        have HAns := Lib.hid (answer_calls w.heap.size m (BA (Ls.getD k [])) wr hsc.out.bch hm.out.1 hsc.out.tab (by show (Ls.getD k []).length ≤ 4096; have := HS6.out; omega))
        have HW := Lib.hid (lineA_rng hm.out.1 (BA (Ls.getD k [])))
        have HN := Lib.hid (lineA_len hm.out.1 (BA (Ls.getD k [])))
        obtain ⟨c, hc⟩ : ∃ c, lineA m (BA (Ls.getD k [])) = c := ⟨_, rfl⟩
        have HF3 := Lib.hid (show (Ls.take (k + 1)).foldl runL (0, []) = (c.1, L ++ (c.2 ++ [10])) from by
          rw [HF2.out]
          unfold runL
          rw [hc])
        rw [hc] at HAns HW HN
        clear hc hmem hpl HF2 hfold
        obtain ⟨m', u⟩ := c
        generalize BA (Ls.getD k []) = p at *
        go_wp2_with fail
        refine HAns.out.mono ?_
        rintro e w2 ⟨rfl, b2⟩
        have H2 := Lib.hid (hsc.out.ans b2)
        have L2 := Lib.hid (hla.out.keep (w' := w2) ((b2.block (w.heap.size + 2) hla.out.1).trans (setB_other m' (by omega))) (by have := b2.size; rw [setB_size] at this; exact this))
        clear b2 hsc hla hcell HAns
        have HWS := Lib.hid (writeString2 (w.heap.size + 1) (w.heap.size + 1) L u w2 H2.out.bld (by have := hm.out.2; have := HN.out; have := HCount.out; simp at *; omega) (Nat.le_of_lt H2.out.lt))
        go_wp2_with fail
        refine HWS.out.mono ?_
        rintro e w3 ⟨rfl, d3, b3, s3⟩
        have H3 := Lib.hid (H2.out.wrote d3 b3)
        have L3 := Lib.hid (L2.out.stays (by omega) s3 b3.size)
        clear d3 b3 s3 H2 L2 HWS
        have HWB := Lib.hid (writeByte2 (w.heap.size + 1) (w.heap.size + 1) (strB (L ++ u)) 10 w3 H3.out.bld (by rw [strB_len, List.length_append]; have := hm.out.2; have := HN.out; have := HCount.out; simp at *; omega) (Nat.le_of_lt H3.out.lt))
        go_wp2_with fail
        refine HWB.out.mono ?_
        rintro e w4 ⟨rfl, d4, b4, s4⟩
        have H4 := Lib.hid (H3.out.wrote (M := L ++ (u ++ [10])) (by
          unfold IsBld
          rw [← List.append_assoc, ← strB_one (L ++ u) 10]
          exact .inr d4) b4)
        have L4 := Lib.hid (L3.out.stays (by omega) s4 b4.size)
        clear d4 b4 s4 H3 L3 HWB
        go_wp2_with fail
        go_roundw
        case rel => exact ⟨k + 1, m', L ++ (u ++ [10]), by omega, by go_num, H4, L4, HF3, Lib.hid ⟨HW.out, by have := hm.out.2; have := HN.out; simp at *; omega⟩⟩
        case measure => simp [intOf]; omega
      · obtain rfl : k = Ls.length := by omega
        have hlt2 : ¬ ((Ls.length : Int) < (Ls.length : Int)) := by omega
        have hRR : R = (m, L) := by
          rw [HR.out, ← hfold.out, List.take_length]
        rw [hRR] at HE
        have h1 := hsc.out.bch.1
        have HI := Lib.hid (itoa_calls m wr hm.out.1.1 (by have := hm.out.1.2; omega) hsc.out.tab)
        have hD : (decN m.toNat).length ≤ 8 := decN_len 7 m.toNat (by have := hm.out.1; unfold IsW at this; omega)
        have HL1 := Lib.hid (show L.length ≤ 600000 from by have := hm.out.2; have := HCount.out; omega)
        have HE2 := Lib.hid (show A = BA (L ++ ((wWord ++ decN m.toNat) ++ [10])) from by rw [HE.out, List.append_assoc])
        generalize decN m.toNat = D at *
        have ha1 : ∀ W : World, (Op.stringOp .add (⟨#[119, 111, 114, 100, 32]⟩ : ByteArray) (BA D)).run Tryz.prog W = .ok (.string (BA (wWord ++ D))) W := fun W => ba_add wWord D (by simp [wWord]; omega) W
        have ha2 : ∀ W : World, (Op.stringOp .add (BA (wWord ++ D)) ⟨#[10]⟩).run Tryz.prog W = .ok (.string (BA ((wWord ++ D) ++ [10]))) W := fun W => ba_add (wWord ++ D) [10] (by simp [wWord]; omega) W
        have hT : ((wWord ++ D) ++ [10]).length ≤ 100 := by simp [wWord]; omega
        obtain ⟨T, hTe⟩ : ∃ T, (wWord ++ D) ++ [10] = T := ⟨_, rfl⟩
        rw [hTe] at hT HE2
        rw [hTe] at ha2
        have HTl := Lib.hid hT
        have HNe := Lib.hid (show L ++ T ≠ [] from fun e => by
          have := congrArg List.length e
          rw [← hTe] at this
          simp at this)
        generalize BA (wWord ++ D) = T1 at *
        generalize BA D = TD at *
        clear hTe hT hD hRR HE hfold hm
        go_wp2_with fail
        refine HI.out.mono ?_
        rintro e w2 ⟨rfl, b2⟩
        have H2 := Lib.hid (hsc.out.next b2)
        clear b2 hsc hla
        have HWS := Lib.hid (writeString2 (w.heap.size + 1) (w.heap.size + 1) L T w2 H2.out.bld (by have := HL1.out; have := HTl.out; omega) (Nat.le_of_lt H2.out.lt))
        go_wp2_with fail
        refine HWS.out.mono ?_
        rintro e w3 ⟨rfl, d3, b3, s3⟩
        have H3 := Lib.hid (H2.out.wrote d3 b3)
        clear d3 b3 s3 H2 HWS
        have HStr := Lib.hid (Tryz.Builder_String (w.heap.size + 1) (w.heap.size + 1) (L ++ T) w3 H3.out.bld HNe.out)
        go_wp2_with fail
        refine HStr.out.mono ?_
        rintro e w4 ⟨rfl, b4⟩
        have hb4 := Lib.hid (H3.out.below.trans (b4.mono (by omega)))
        clear b4
        go_wp2_with fail
        go_ret
        exact ⟨by rw [HE2.out]; rfl, hb4.out⟩
end Go.Proofs.YtcfhfllcdliaoaaGreatDoor