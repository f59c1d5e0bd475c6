import Derived.Test.YtcfhfllcdliaoaaGreatDoorHA
import Derived.Test.YtcfhfllcdliaoaaGreatDoorC27
import Derived.Test.YtcfhfllcdliaoaaGreatDoorH5
import Derived.Lib.LaidTab
import Derived.Sort.Grow
import Derived.Lib.AppendStr
import Derived.Deep.RegionWith
/- What the program's scripts stand on: the listed tables, a number as a text, the builder, the bench. -/
namespace Go.Proofs.YtcfhfllcdliaoaaGreatDoor
open Go.RowKit Go.Sort
set_option linter.unusedVariables false
set_option linter.unusedSimpArgs false
attribute [local irreducible] octS cN octF syn

/-! ### The tables, and the variable of the library that every search asks -/
def TabW (w : World) : Prop := Lib.TabIs Tryz.prog w "internal/strconv.uint64pow10" .u64 Lib.pow10Tab
def TabM (w : World) : Prop := ∃ m, w.cell? ⟨1, 0, none⟩ = some (.int .i64 m)
def TabX (w : World) : Prop := Tab3 w ∧ TabW w ∧ TabM w
def tabXG : Nat := max (max tab3G 2) 1
theorem powG : Tryz.prog.globalNamed "internal/strconv.uint64pow10" = some 2 := by kernel_rfl
theorem TabW.lt {w : World} (h : TabW w) : 2 < w.heap.size := by
  unfold TabW Lib.TabIs World.var? at h
  rw [powG] at h
  simp only [Option.bind_some] at h
  rcases Nat.lt_or_ge 2 w.heap.size with h' | h'
  · exact h'
  · rw [Array.getElem?_eq_none h'] at h; cases h
theorem TabW.below {w w' : World} {B : Nat} (h : TabW w) (hb : Below B w w') (h0 : 2 < B) : TabW w' := by
  unfold TabW Lib.TabIs World.var? at h ⊢
  rw [powG] at h ⊢
  simp only [Option.bind_some] at h ⊢
  rw [hb.block _ h0]
  exact h
theorem TabM.lt {w : World} (h : TabM w) : 1 < w.heap.size := by
  obtain ⟨m, hm⟩ := h
  exact World.block_lt_of_cell? w _ hm
theorem TabM.below {w w' : World} {B : Nat} (h : TabM w) (hb : Below B w w') (h0 : 1 < B) : TabM w' := by
  obtain ⟨m, hm⟩ := h
  exact ⟨m, (hb.cell (p := ⟨1, 0, none⟩) h0).trans hm⟩
theorem TabX.lt {w : World} (h : TabX w) : tabXG < w.heap.size := by
  have h1 := h.1.lt
  have h2 := h.2.1.lt
  have h3 := h.2.2.lt
  unfold tabXG; omega
theorem TabX.below {w w' : World} {B : Nat} (h : TabX w) (hb : Below B w w') (h0 : tabXG < B) : TabX w' := by
  unfold tabXG at h0
  exact ⟨h.1.below hb (by omega), h.2.1.below hb (by omega), h.2.2.below hb (by omega)⟩
theorem TabX.keep {w w' : World} (h : TabX w) (hb : Below w.heap.size w w') : TabX w' := h.below hb h.lt

/-! ### A number as a text -/
theorem below_grow (w : World) (k : Nat) (os : Array Obj) : Below w.heap.size w (grow (w.drewN k) os) :=
  ⟨rfl, rfl, rfl, by unfold grow; show w.heap.size ≤ (w.heap ++ os).size; rw [Array.size_append]; omega, fun j hj => by
    unfold grow
    show (w.heap ++ os)[j]? = w.heap[j]?
    rw [Array.getElem?_append_left hj]⟩
theorem itoa_calls (n : Int) (w : World) (h0 : 0 ≤ n) (h1 : n ≤ 1000000000) (hT : TabX w) :
    Calls Tryz.prog 35 #[.int .i64 n] w fun e w' => e = .returned (.string (BA (decN n.toNat))) ∧ Below w.heap.size w w' := by
  refine (Tryz.strconv_Itoa n (by omega) (by omega) w hT.2.1).mono ?_
  rintro e w' ⟨rfl, k, os, rfl⟩
  exact ⟨by rw [decN_itoa h0]; rfl, below_grow _ _ _⟩

/-! ### The builder -/
def strB (L : List UInt8) : List Value := Lib.strCells (BA L)
theorem strB_len (L : List UInt8) : (strB L).length = L.length := by unfold strB; rw [Lib.strCells_length]; rfl
abbrev IsBld (B b : Nat) (L : List UInt8) (w : World) : Prop := Lib.IsBuilder 42 5 B b (strB L) w
theorem ownsRow_keep {w w' : World} {B : Nat} {e : TypeId} {s : Nat} {v : Value} {n : Nat} {xs : List Value} (h : w.ownsRow B e s v n xs) (hk : ∀ k, B ≤ k → k < w.heap.size → w'.heap[k]? = w.heap[k]?) : w'.ownsRow B e s v n xs := by
  obtain ⟨hl, h | ⟨g, cap, cur, hv, hg, hh, h1, h2, h3, h4⟩⟩ := h
  · exact ⟨hl, .inl h⟩
  · refine ⟨hl, .inr ⟨g, cap, cur, hv, hg, ?_, h1, h2, h3, h4⟩⟩
    rw [hk g hg (Array.getElem?_eq_some_iff.1 hh).1]
    exact hh
theorem IsBld.keep {B b : Nat} {L : List UInt8} {w w' : World} (h : IsBld B b L w) (hk : ∀ k, B ≤ k → k < w.heap.size → w'.heap[k]? = w.heap[k]?) : IsBld B b L w' := by
  rcases h with ⟨hB, v, hh, ho, hn⟩ | ⟨hB, v, hh, ho, hn⟩
  · exact .inl ⟨hB, v, by rw [hk b hB (Array.getElem?_eq_some_iff.1 hh).1]; exact hh, ownsRow_keep ho hk, hn⟩
  · exact .inr ⟨hB, v, by rw [hk b hB (Array.getElem?_eq_some_iff.1 hh).1]; exact hh, ownsRow_keep ho hk, hn⟩
theorem strB_app (L M : List UInt8) : strB L ++ Lib.strCells (BA M) = strB (L ++ M) := by
  unfold strB Lib.strCells BA
  simp
theorem strB_one (L : List UInt8) (c : UInt8) : strB L ++ [.int .u8 c.toNat] = strB (L ++ [c]) := by
  unfold strB Lib.strCells BA
  simp
set_option maxHeartbeats 2000000 in
set_option maxRecDepth 100000 in
theorem writeString_calls (B b : Nat) (L M : List UInt8) (w : World) (h : IsBld B b L w) (hlen : L.length + M.length ≤ 1000000000) (hBw : B ≤ w.heap.size) :
    Calls Tryz.prog 32 #[.pointer (some ⟨b, 0, none⟩), .string (BA M)] w fun e w' => e = .returned (.tuple #[.int .i64 (BA M).size, .nilIface]) ∧ IsBld B b (L ++ M) w' ∧ Below B w w' := by
  obtain ⟨i0, hi, hz0, hz1, hz2⟩ := info_parts byteInfo
  have hlb := strB_len L
  have hms : (BA M).size = M.length := rfl
  have HS := Lib.hid (strB_app L M)
  unfold IsBld at h ⊢
  generalize BA M = s at *
  generalize strB (L ++ M) = R at *
  generalize strB L = bs at *
  go_enter Tryz.func32, Tryz.ntmps32
  go_wp2_with (go_at_call 53; refine (copyCheck_calls B b bs _ h).mono ?_)
  rintro e w1 ⟨rfl, h1, hb1⟩
  obtain ⟨hB, v, hbk, hown, hne⟩ := h1
  have c0 : w1.cell? ⟨b, 0, none⟩ = some (.pointer (some ⟨b, 0, none⟩)) := by rw [Lib.cell_of_heap hbk]; rfl
  have c1 : w1.cell? ⟨b, 1, none⟩ = some v := by rw [Lib.cell_of_heap hbk]; rfl
  go_wp2_with (at_builtin; refine Lib.wpList_append_own_string _ rfl _ _ 22 9 rfl B 5 i0 Tryz.underlying22 Tryz.underlying9 hi hz0 hz1 hz2 _ _ _ rfl hown s rfl ?c3 ?c4 ?c5 ?_)
  case c3 => unfold maxLen; omega
  case c4 => omega
  case c5 => have := hb1.size; omega
  intro v' w2 hown' hgrow _
  have hlt : b < w1.heap.size := by
    rcases Nat.lt_or_ge b w1.heap.size with h' | h'
    · exact h'
    · simp [Array.getElem?_eq_none h'] at hbk
  have hb2 : w2.heap[b]? = some (.cells #[.pointer (some ⟨b, 0, none⟩), v] 42 (0, 0)) := by
    rw [hgrow.block b hlt (fun e => hne e.symm)]
    exact hbk
  have d0 : w2.cell? ⟨b, 0, none⟩ = some (.pointer (some ⟨b, 0, none⟩)) := by rw [Lib.cell_of_heap hb2]; rfl
  have d1 : w2.cell? ⟨b, 1, none⟩ = some v := by rw [Lib.cell_of_heap hb2]; rfl
  have f1 : w2.frozen? ⟨b, 1, none⟩ = false := Lib.frozen_of_heap hb2 1
  obtain ⟨ao, n', cap, rfl⟩ : ∃ ao n' cap, v' = .slice ao n' cap := by
    rcases hown'.2 with ⟨hv, _⟩ | ⟨g, cap, cur, hv, _⟩
    · exact ⟨_, _, _, hv⟩
    · exact ⟨_, _, _, hv⟩
  go_wp2
  go_ret2
  refine ⟨by rw [hms]; rfl, ?_, ?_⟩
  · rw [← HS.out]
    exact .inr (Lib.BuilderAt.put (T := 42) (e := 5) hB hb2 (bs' := bs ++ Lib.strCells s) (by rw [List.length_append, Lib.strCells_length, hlb, hms]; exact hown') (by decide))
  · exact (hb1.grown hgrow (by have := hb1.size; omega) (fun k hk => (hown.lt k hk).1)).setCell (p := ⟨b, 1, none⟩) hB _

/-! ### The bench: one number of the call's own -/
def Bch (w : World) (pb : Nat) (n : Int) : Prop := w.cell? ⟨pb, 0, none⟩ = some (.int .i64 n) ∧ w.frozen? ⟨pb, 0, none⟩ = false ∧ tabXG < pb
theorem Bch.lt {w : World} {pb : Nat} {n : Int} (h : Bch w pb n) : pb < w.heap.size := World.block_lt_of_cell? w _ h.1
/-- The world in which the bench holds n. -/
def setB (w : World) (pb : Nat) (n : Int) : World := w.setCell ⟨pb, 0, none⟩ (.int .i64 n)
theorem setB_size (w : World) (pb : Nat) (n : Int) : (setB w pb n).heap.size = w.heap.size := by unfold setB World.setCell; simp
theorem below_setB {w w1 : World} {B pb : Nat} (n : Int) (hb : Below B w w1) (hp : pb < B) : Below B (setB w pb n) (setB w1 pb n) := by
  refine ⟨hb.os, hb.tape, hb.output, by rw [setB_size, setB_size]; exact hb.size, fun k hk => ?_⟩
  unfold setB World.setCell
  simp only [Array.getElem?_modify]
  rw [hb.block k hk]
theorem setB_other {w : World} {pb : Nat} (n : Int) {k : Nat} (h : k ≠ pb) : (setB w pb n).heap[k]? = w.heap[k]? := Below.heap_setCell w _ _ k h
theorem setB_self {w : World} {pb : Nat} {n : Int} (h : Bch w pb n) : Below w.heap.size (setB w pb n) w := by
  refine ⟨rfl, rfl, rfl, by rw [setB_size]; exact Nat.le_refl _, fun k hk => ?_⟩
  by_cases e : k = pb
  · subst e
    have h1 := h.1
    unfold setB World.setCell
    simp only [Array.getElem?_modify, if_true]
    unfold World.cell? at h1
    cases hh : w.heap[k]? with
    | none => rw [hh] at h1; cases h1
    | some o =>
      rw [hh] at h1
      cases o with
      | cells c t f =>
        simp only [Option.isSome_none, Bool.false_eq_true, if_false] at h1
        simp only [Option.map_some, Option.isSome_none, Bool.false_eq_true, if_false]
        rw [show c.setIfInBounds 0 (.int .i64 n) = c from ?_]
        obtain ⟨h2, h3⟩ := Array.getElem?_eq_some_iff.1 h1
        rw [Array.setIfInBounds, dif_pos h2, ← h3, Array.set_getElem_self]
      | _ => cases h1
  · exact (setB_other n e).symm
end Go.Proofs.YtcfhfllcdliaoaaGreatDoor
/- The program's numbers of texts, what fails, what the bench becomes. -/
namespace Go.Proofs.YtcfhfllcdliaoaaGreatDoor
open Go.RowKit
open Go.PlainAid (bt get_bt bt_nonneg bt_le)
set_option linter.unusedVariables false
set_option linter.unusedSimpArgs false
attribute [local irreducible] octS cN octF syn

/-- How a line ends that can't be done. -/
def fault (out : List UInt8) : Ending := .panicked [{ v := .iface 76 (.string (BA out)), recovered := false }]
theorem emptyB : ((⟨#[]⟩ : ByteArray).toList) = [] := by rw [ByteArray.toList_eq]
theorem bytes_none {s : ByteArray} (h : s.size = 0) : s.toList = [] := by
  rw [ByteArray.toList_eq]; exact List.eq_nil_of_length_eq_zero (show s.data.toList.length = 0 from h)
theorem bytes_some {s : ByteArray} (h : ¬ s.size = 0) : ¬ s.toList = [] := by
  rw [ByteArray.toList_eq]
  intro e
  exact h (by rw [← len_list, e]; rfl)
/-- Numbers: a text of digits is read, others leave the line. -/
def numE (s : ByteArray) : Ending := if (numS s).2 = true then .returned (.int .i64 (numS s).1) else fault aNo
set_option maxHeartbeats 4000000 in
theorem numberIn_calls (s : ByteArray) (w : World) (hs : s.size ≤ 4096) :
    Calls Tryz.prog 121 #[.string s] w fun e w' => e = numE s ∧ w = w' := by
  by_cases h18 : 1 ≤ s.size ∧ s.size ≤ 8
  · have hget := get_bt s
    have e1 : (s.toList == ([] : List UInt8)) = false := beq_eq_false_iff_ne.2 (bytes_some (by omega))
    have f1 : ¬ s.toList = [] := bytes_some (by omega)
    have a8 : ¬ (8 : Int) < (s.size : Int) := by omega
    have HGO := Lib.hid (fun ha => show numE s = .returned (.int .i64 (valTo s s.size)) by unfold numE; rw [numS_good h18 ha]; rfl)
    have HNO := Lib.hid (fun k h hb => show numE s = fault aNo by unfold numE; rw [numS_bad (s := s) k h hb]; rfl)
    generalize hR : numE s = R at *
    clear hR
    go_enter Tryz.func121, Tryz.ntmps121
    go_wp2_with fail
    go_loopw [3, 15] (fun t i wr => ∃ k : Nat, k ≤ s.size ∧ i = .int .i64 k ∧ t = .int .i64 (valTo s k) ∧ wr = w ∧ Hid (allD s k = true)) (fun _ i _ => s.size - (intOf i).toNat)
    case atStart => exact ⟨0, Nat.zero_le _, rfl, rfl, rfl, Lib.hid rfl⟩
    case round =>
      obtain ⟨k, hk, rfl, rfl, rfl, hd⟩ := hrel
      by_cases hlt : k < s.size
      · have b0 := bt_nonneg s k
        have b1 := bt_le s k
        have hk1 : (k : Int) < (s.size : Int) := by omega
        by_cases hb : 48 ≤ bt s k ∧ bt s k ≤ 57
        · have n1 : ¬ bt s k < 48 := by omega
          have n2 : ¬ 57 < bt s k := by omega
          have hd2 : allD s (k + 1) = true := by unfold allD; rw [hd.out]; unfold isDigB; simpa using hb
          have hv := valTo_lt s k (by omega) hd.out
          have HD2 := Lib.hid hd2
          have HV := Lib.hid (show valTo s (k + 1) = 10 * valTo s k + (bt s k - 48) from rfl)
          have hu : wrap64 (valTo s k * 10 + (bt s k - 48)) = valTo s (k + 1) := by rw [HV.out]; unfold wrap64; omega
          have hu2 : IntKind.i64.wrap (valTo s k * 10 + (bt s k - 48)) = valTo s (k + 1) := by rw [IntKind.wrap_i64]; unfold wrap64 at hu; exact hu
          have hm : wrap64 (valTo s k * 10) = valTo s k * 10 := by unfold wrap64; omega
          have hm2 : IntKind.i64.wrap (valTo s k * 10) = valTo s k * 10 := by rw [IntKind.wrap_i64]; omega
          clear hd2 hd hb
          go_wp2_with fail
          go_roundw
          case rel => exact ⟨k + 1, by omega, by go_num, by first | rfl | assumption | simp, by first | rfl | trivial, HD2⟩
          case measure => simp [intOf]; omega
        · have HN := Lib.hid (HNO.out k hlt (by unfold isDigB; simpa using hb))
          clear hd
          rcases (by omega : bt s k < 48 ∨ (¬ bt s k < 48 ∧ 57 < bt s k)) with h1 | ⟨h1, h2⟩
          all_goals
            clear hb
            go_wp2_with fail
            exact ⟨rfl, by rw [HN.out]; rfl, rfl⟩
      · obtain rfl : k = s.size := by omega
        have HN := Lib.hid (HGO.out hd.out)
        have hlt2 : ¬ ((s.size : Int) < (s.size : Int)) := by omega
        clear hd
        go_wp2_with fail
        go_ret
        exact ⟨by rw [HN.out]; rfl, rfl⟩
  · have HN := Lib.hid (show numE s = fault aNo by unfold numE; rw [numS_size h18]; rfl)
    by_cases h0 : s.size = 0
    · have e1 : (s.toList == ([] : List UInt8)) = true := by rw [bytes_none h0]; rfl
      clear h18
      go_enter Tryz.func121, Tryz.ntmps121
      go_wp2_with fail
      exact ⟨rfl, by rw [HN.out]; rfl, rfl⟩
    · have e1 : (s.toList == ([] : List UInt8)) = false := beq_eq_false_iff_ne.2 (bytes_some h0)
      have f1 : ¬ s.toList = [] := bytes_some h0
      have a8 : (8 : Int) < (s.size : Int) := by omega
      clear h18
      go_enter Tryz.func121, Tryz.ntmps121
      go_wp2_with fail
      exact ⟨rfl, by rw [HN.out]; rfl, rfl⟩
theorem must_int_no (n : Int) (w : World) : Calls Tryz.prog 175 #[.int .i64 n, .bool false] w fun e w' => e = fault aNo ∧ w = w' := by
  go_enter Tryz.func175, Tryz.ntmps175
  go_wp2_with fail
  exact ⟨rfl, rfl, rfl⟩
theorem must_int_yes (n : Int) (w : World) : Calls Tryz.prog 175 #[.int .i64 n, .bool true] w fun e w' => e = .returned (.int .i64 n) ∧ w = w' := by
  go_enter Tryz.func175, Tryz.ntmps175
  go_wp2_with fail
  go_ret
  exact ⟨rfl, rfl⟩
theorem must_string_no (s : ByteArray) (w : World) : Calls Tryz.prog 129 #[.string s, .bool false] w fun e w' => e = fault aNo ∧ w = w' := by
  go_enter Tryz.func129, Tryz.ntmps129
  go_wp2_with fail
  exact ⟨rfl, rfl, rfl⟩
theorem must_string_yes (s : ByteArray) (w : World) : Calls Tryz.prog 129 #[.string s, .bool true] w fun e w' => e = .returned (.string s) ∧ w = w' := by
  go_enter Tryz.func129, Tryz.ntmps129
  go_wp2_with fail
  go_ret
  exact ⟨rfl, rfl⟩
theorem must_list_no (A : Option Addr) (n c : Nat) (w : World) : Calls Tryz.prog 131 #[.slice A n c, .bool false] w fun e w' => e = fault aNo ∧ w = w' := by
  go_enter Tryz.func131, Tryz.ntmps131
  go_wp2_with fail
  exact ⟨rfl, rfl, rfl⟩
theorem must_list_yes (A : Option Addr) (n c : Nat) (w : World) : Calls Tryz.prog 131 #[.slice A n c, .bool true] w fun e w' => e = .returned (.slice A n c) ∧ w = w' := by
  go_enter Tryz.func131, Tryz.ntmps131
  go_wp2_with fail
  go_ret
  exact ⟨rfl, rfl⟩
/-- How a line ends that the bench stands for: told, or left. -/
def Ans (w : World) (pb : Nat) (c : Int × List UInt8) (e : Ending) (w' : World) : Prop :=
  (e = .returned (.string (BA c.2)) ∨ e = fault c.2) ∧ Below w.heap.size (setB w pb c.1) w'
set_option maxHeartbeats 2000000 in
theorem become_calls (pb : Nat) (o : Int) (c : Int × Bool) (w : World) (hB : Bch w pb o) :
    Calls Tryz.prog 122 #[.pointer (some ⟨pb, 0, none⟩), .int .i64 c.1, .bool c.2] w (Ans w pb (doneA o c)) := by
  obtain ⟨n, b⟩ := c
  have h1 := hB.1
  have h2 := hB.2.1
  rcases b with _ | _
  · have HS := Lib.hid (setB_self hB)
    go_enter Tryz.func122, Tryz.ntmps122
    go_wp2_with fail
    refine (must_int_no n _).mono ?_
    rintro e w' ⟨he, rfl⟩
    unfold fault at he
    subst he
    go_wp2_with fail
    exact ⟨rfl, .inr rfl, HS.out⟩
  · go_enter Tryz.func122, Tryz.ntmps122
    go_wp2_with fail
    refine (must_int_yes n _).mono ?_
    rintro e w' ⟨rfl, rfl⟩
    go_wp2_with fail
    go_ret
    exact ⟨.inl rfl, Below.refl _ _⟩
end Go.Proofs.YtcfhfllcdliaoaaGreatDoor
/- The program's lists as texts, the numbers of a rest, the lines of a script. -/
namespace Go.Proofs.YtcfhfllcdliaoaaGreatDoor
open Go.RowKit
open Go.PlainAid (bt get_bt bt_nonneg bt_le)
set_option linter.unusedVariables false
set_option linter.unusedSimpArgs false
attribute [local irreducible] octS cN octF syn

/-! ### A list of numbers as a text -/
theorem join_snoc (L : List (List UInt8)) (a sep : List UInt8) : Lib.join (L ++ [a]) sep = if L = [] then a else Lib.join L sep ++ sep ++ a := by
  cases L with
  | nil => rw [if_pos rfl, List.nil_append, Lib.join_one]
  | cons x r =>
    rw [if_neg (by simp), List.cons_append, Lib.join_cons, Lib.join_cons]
    unfold Lib.joinTail
    simp
theorem saidTo_succ (xs : List Int) (k : Nat) : saidTo xs (k + 1) = (if 0 < k then saidTo xs k ++ [32] else saidTo xs k) ++ decN (xs.getD k 0).toNat := rfl
theorem join_said (xs : List Int) : ∀ k, k ≤ xs.length → Lib.join ((xs.take k).map fun x => decN x.toNat) [32] = saidTo xs k
  | 0, _ => rfl
  | k + 1, h => by
    rw [take_succ_getD xs k (by omega), List.map_append, List.map_cons, List.map_nil, join_snoc, join_said xs k (by omega), saidTo_succ]
    by_cases hk : k = 0
    · subst hk
      rw [if_pos (by simp), if_neg (by omega)]
      rfl
    · rw [if_neg (by
        intro e
        have h2 : ((xs.take k).map fun x => decN x.toNat).length = 0 := by rw [e]; rfl
        rw [List.length_map, List.length_take] at h2
        omega), if_pos (by omega)]
/-- The call's own list of strings. -/
def OwnT (w : World) (B : Nat) (v : Value) (L : List ByteArray) : Prop := w.ownsRow B 9 1 v L.length (L.map Value.string)
theorem OwnT.below {w w' : World} {B : Nat} {v : Value} {L : List ByteArray} (h : OwnT w B v L) (hb : Below w.heap.size w w') : OwnT w' B v L :=
  ownsRow_keep h fun k _ hk => hb.block k hk
theorem OwnT.cell {w : World} {B g c n : Nat} {L : List ByteArray} (h : OwnT w B (.slice (some ⟨g, 0, none⟩) n c) L) (hn : n = L.length) {j : Nat} (hj : j < L.length) : w.cell? ⟨g, j, none⟩ = some (.string (L.getD j ByteArray.empty)) := by
  subst hn
  unfold OwnT at h
  rw [World.ownsRow.cellAt h j (by omega), List.getElem?_map, List.getElem?_eq_getElem hj, List.getD_eq_getElem?_getD, List.getElem?_eq_getElem hj]
  rfl
theorem OwnT.free {w : World} {B g c n : Nat} {L : List ByteArray} (h : OwnT w B (.slice (some ⟨g, 0, none⟩) n c) L) (hn : n = L.length) (j : Nat) : w.frozen? ⟨g, j, none⟩ = false := by
  subst hn
  exact World.ownsRow.frozenAt h j
theorem OwnT.set {w : World} {B g c n : Nat} {L : List ByteArray} (h : OwnT w B (.slice (some ⟨g, 0, none⟩) n c) L) (hn : n = L.length) (j : Nat) (x : ByteArray) : OwnT (w.setCell ⟨g, j, none⟩ (.string x)) B (.slice (some ⟨g, 0, none⟩) n c) (L.set j x) := by
  subst hn
  have := (World.ownsRow.stored h j (.string x)).1
  unfold OwnT
  rw [List.length_set, List.map_set]
  exact this
theorem strInfo : (Tryz.prog.info? 9).map (fun i => (i.zero, i.size, i.bytes)) = some (some (.string ByteArray.empty), 1, 16) := by kernel_rfl
def txK (xs : List Int) (k : Nat) : List ByteArray := (xs.take k).map (fun x => BA (decN x.toNat)) ++ List.replicate (xs.length - k) ByteArray.empty
theorem txK_len (xs : List Int) (k : Nat) (h : k ≤ xs.length) : (txK xs k).length = xs.length := by
  unfold txK
  rw [List.length_append, List.length_map, List.length_take, List.length_replicate]
  omega
theorem txK_set (xs : List Int) (k : Nat) (h : k < xs.length) : (txK xs k).set k (BA (decN (xs.getD k 0).toNat)) = txK xs (k + 1) := by
  unfold txK
  rw [List.set_append_right _ _ (by rw [List.length_map, List.length_take]; omega), List.length_map, List.length_take, show k - min k xs.length = 0 by omega, show xs.length - k = (xs.length - (k + 1)) + 1 by omega, List.replicate_succ, List.set_cons_zero, take_succ_getD xs k h, List.map_append]
  simp
set_option maxHeartbeats 4000000 in
theorem listText_calls (A : Option Addr) (c : Nat) (xs : List Int) (w : World) (ha : Rds w w.heap.size .i64 A xs) (hs : SmallL xs) (hT : TabX w) :
    Calls Tryz.prog 130 #[.slice A xs.length c] w fun e w' => e = .returned (.string (BA (saidTo xs xs.length))) ∧ Below w.heap.size w w' := by
  obtain ⟨i0, hi, hz0, hz1, hz2⟩ := info_parts strInfo
  have hl64 := hs.1
  have HA := Lib.hid ha
  have HS := Lib.hid hs
  have HT := Lib.hid hT
  have HLen := Lib.hid (saidTo_len xs hs.at_ xs.length)
  have HJ := Lib.hid (join_said xs xs.length (Nat.le_refl _))
  generalize saidTo xs xs.length = R at *
  clear ha hs hT
  go_enter Tryz.func130, Tryz.ntmps130
  go_wp2_with (at_make; refine wpList_make_full _ rfl _ _ 43 rfl w.heap.size 9 i0 (.string ByteArray.empty) 1 Tryz.underlying43 hi hz0 hz1 _ _ _ _ xs.length rfl rfl rfl rfl (by rw [hz2]; omega) (by unfold maxLen; omega) (Nat.le_refl _) ?_; intro w1 hown hgrow)
  have HO := Lib.hid (show OwnT w1 w.heap.size (.slice (some ⟨w.heap.size, 0, none⟩) xs.length xs.length) (txK xs 0) from by
    unfold OwnT
    rw [txK_len xs 0 (Nat.zero_le _)]
    have e : ((txK xs 0).map Value.string) = (madeCells (Value.string ByteArray.empty).cells (xs.length * 1)).toList := by
      rw [show (Value.string ByteArray.empty).cells = #[Value.string ByteArray.empty] from rfl, toList_madeCells_one, Nat.mul_one]
      unfold txK
      simp
    rw [e]
    exact hown)
  have HB := Lib.hid ((Below.refl w.heap.size w).grown hgrow (Nat.le_refl _) (by simp))
  have HG := Lib.hid (show w.heap.size < w1.heap.size from HO.out.2.elim (fun h => by cases h.1) (fun ⟨g, cap, cur, hv, _, hh, _⟩ => by
    simp only [Value.slice.injEq, Option.some.injEq, Addr.mk.injEq, and_true, true_and] at hv
    rw [hv.1]
    exact (Array.getElem?_eq_some_iff.1 hh).1))
  clear hown hgrow
  go_wp2_with fail
  go_loopw [11] (fun i wr => ∃ k : Nat, k ≤ xs.length ∧ i = .int .i64 (k : Int) ∧ Hid (OwnT wr w.heap.size (.slice (some ⟨w.heap.size, 0, none⟩) xs.length xs.length) (txK xs k)) ∧ Hid (Below w.heap.size w wr) ∧ Hid (w.heap.size < wr.heap.size)) (fun i _ => xs.length - (intOf i).toNat)
  case atStart => exact ⟨0, Nat.zero_le _, rfl, HO, HB, HG⟩
  case round =>
    obtain ⟨k, hk, rfl, ho, hb, hg⟩ := hrel
    clear HO HB HG
    by_cases hlt : k < xs.length
    · obtain ⟨bb, o, hA, hb1, hc⟩ := (HA.out.below hb.out).at_ (j := k) hlt
      subst hA
      have hk1 : (k : Int) < (xs.length : Int) := by omega
      have hk0 : (0 : Int) ≤ (k : Int) := by omega
      have hv := HS.out.at_ k
      have HI := Lib.hid (itoa_calls (xs.getD k 0) wr hv.1 (by omega) (HT.out.keep hb.out))
      have HX := Lib.hid (txK_set xs k hlt)
      clear hv
      generalize BA (decN (xs.getD k 0).toNat) = T at *
      generalize xs.getD k 0 = x at *
      go_wp2_with fail
      refine HI.out.mono ?_
      rintro e w2 ⟨rfl, b2⟩
      have ho2 := ho.out.below b2
      have hb2 := Lib.hid (hb.out.trans (b2.mono (Nat.le_of_lt hg.out)))
      have hg2 := Lib.hid (Nat.lt_of_lt_of_le hg.out b2.size)
      have hc2 := ho2.cell (txK_len xs k hk).symm (j := k) (by rw [txK_len xs k hk]; exact hlt)
      have hf2 := ho2.free (txK_len xs k hk).symm k
      have HO2 := Lib.hid (ho2.set (txK_len xs k hk).symm k T)
      rw [HX.out] at HO2
      clear ho2 b2 HI ho hb hg
      go_wp2_with fail
      go_roundw
      case rel => exact ⟨k + 1, by omega, by go_num, HO2, Lib.hid (hb2.out.setCell (p := ⟨w.heap.size, k, none⟩) (Nat.le_refl _) _), Lib.hid (by simp; exact hg2.out)⟩
      case measure => simp [intOf]; omega
    · obtain rfl : k = xs.length := by omega
      have hlt2 : ¬ ((xs.length : Int) < (xs.length : Int)) := by omega
      have HL := Lib.hid (txK_len xs xs.length (Nat.le_refl _))
      have HJoin := Lib.hid (fun h1 h2 h3 => Tryz.strings_Join w.heap.size 0 xs.length (txK xs xs.length) ⟨#[32]⟩ wr h1 hg.out (by rw [HL.out]; omega) h2 h3)
      have HE := Lib.hid (show Lib.join ((txK xs xs.length).map (·.data.toList)) (⟨#[32]⟩ : ByteArray).data.toList = R by
        rw [← HJ.out]
        unfold txK
        simp
        rfl)
      rw [HL.out] at HJoin
      go_wp2_with fail
      refine (HJoin.out (fun j x hx => ?_) (by omega) ?_).mono ?_
      · have hj := (List.getElem?_eq_some_iff.1 hx).1
        have h1 := ho.out.cell HL.out.symm hj
        rw [Nat.zero_add, h1, List.getD_eq_getElem?_getD, hx]
        rfl
      · rw [HE.out]
        have := HLen.out
        omega
      rintro e w2 ⟨rfl, b2⟩
      have hb2 := Lib.hid (hb.out.trans (b2.mono (Nat.le_of_lt hg.out)))
      clear b2
      go_wp2_with fail
      go_ret
      exact ⟨by rw [← HE.out]; rfl, hb2.out⟩
end Go.Proofs.YtcfhfllcdliaoaaGreatDoor
/- The numbers of a rest, the lines of a script, of the program. -/
namespace Go.Proofs.YtcfhfllcdliaoaaGreatDoor
open Go.RowKit
open Go.PlainAid (bt get_bt bt_nonneg bt_le)
set_option linter.unusedVariables false
set_option linter.unusedSimpArgs false
attribute [local irreducible] octS cN octF syn

/-! ### Split -/
theorem ext_size_le' (l : ByteArray) (a b : Nat) : (l.extract a b).size ≤ l.size := by rw [ByteArray.size_extract]; omega
def splitL (c : UInt8) (s : ByteArray) : List ByteArray := Lib.splitB ⟨#[c]⟩ 0 (Lib.countB s ⟨#[c]⟩) s
theorem splitL_len (c : UInt8) (s : ByteArray) : (splitL c s).length = Lib.countB s ⟨#[c]⟩ + 1 := by
  unfold splitL
  rw [splitB_parts, List.length_map, List.length_append, partsAt_len, countB_one]
  rfl
theorem splitL_le (c : UInt8) (s : ByteArray) : (splitL c s).length ≤ s.size + 1 := by
  rw [splitL_len, countB_one]
  have := List.count_le_length (a := c) (l := s.data.toList)
  rw [len_list] at this
  omega
theorem split_calls (c : UInt8) (s : ByteArray) (w : World) (hs : s.size ≤ 4096) (hT : TabX w) :
    Calls Tryz.prog 52 #[.string s, .string ⟨#[c]⟩] w fun e w' => e = .returned (.slice (some ⟨w.heap.size, 0, none⟩) (splitL c s).length (splitL c s).length) ∧ (∀ j, j < (splitL c s).length → w'.cell? ⟨w.heap.size, j, none⟩ = some (.string ((splitL c s).getD j ByteArray.empty))) ∧ Below w.heap.size w w' ∧ w.heap.size < w'.heap.size ∧ (∃ cs, w'.heap[w.heap.size]? = some (.cells cs 9 (0, 0))) := by
  obtain ⟨m, hm⟩ := hT.2.2
  refine (Tryz.strings_Split s ⟨#[c]⟩ m w (by omega) hm (Nat.le_refl 1)).mono ?_
  rintro e w' ⟨rfl, rfl⟩
  refine ⟨by rw [splitL_len], fun j hj => ?_, (Below.refl _ _).alloc (Nat.le_refl _) _, by simp, ⟨_, heap_alloc_new w _⟩⟩
  show (w.alloc (.cells ((splitL c s).map Value.string).toArray _)).cell? ⟨w.heap.size, j, none⟩ = _
  rw [Lib.cell_of_heap (heap_alloc_new w _), List.getElem?_toArray, List.getElem?_map, List.getElem?_eq_getElem hj, List.getD_eq_getElem?_getD, List.getElem?_eq_getElem hj]
  rfl

/-! ### Five numbers -/
theorem pcs_size (s : ByteArray) : ∀ f i fr, ∀ p ∈ pcs s f i fr, p.size ≤ s.size
  | 0, _, _, p, hp => absurd hp (by simp [pcs])
  | f + 1, i, fr, p, hp => by
    unfold pcs at hp
    split at hp
    · rcases List.mem_cons.1 hp with rfl | hp
      · exact ext_size_le' s fr i
      · exact pcs_size s f _ _ p hp
    · exact pcs_size s f _ _ p hp
def NumsR (w : World) (r : List Int × Bool) (e : Ending) (w' : World) : Prop :=
  (if r.2 = true then ∃ v, e = .returned v ∧ Own w' w.heap.size v r.1 else e = fault aNo) ∧ Below w.heap.size w w'
theorem nums_fold (s : ByteArray) (n : Int) : numsS s n = numFold n (splitL 32 s) [] := by
  unfold splitL
  rw [← pcs_split]
  exact numsGo_fold s n _ _ _ _
theorem fill5 (xs : List Int) (k : Nat) (h : k < xs.length) : (xs.take k ++ List.replicate (xs.length - k) 0).set k (xs.getD k 0) = xs.take (k + 1) ++ List.replicate (xs.length - (k + 1)) 0 := by
  rw [take_succ_getD xs k h, List.set_append_right _ _ (by simp; omega), List.length_take, Nat.min_eq_left (by omega), Nat.sub_self,
    show xs.length - k = (xs.length - (k + 1)) + 1 by omega, List.replicate_succ]
  simp
def z5c : Array Value := #[.int .i64 0, .int .i64 0, .int .i64 0, .int .i64 0, .int .i64 0]
theorem mk5c (W : World) : (Instr.makeSlice 61 (.int .i64 5) (.int .i64 5)).run Tryz.prog W = .ok (.slice (some ⟨W.heap.size, 0, none⟩) 5 5) (W.alloc (.cells z5c 3)) := by kernel_rfl
theorem own5c (w : World) : Own (w.alloc (.cells z5c 3)) w.heap.size (.slice (some ⟨w.heap.size, 0, none⟩) 5 5) [0, 0, 0, 0, 0] :=
  ⟨rfl, .inr ⟨w.heap.size, 5, z5c, rfl, Nat.le_refl _, heap_alloc_new w _, by decide, by unfold maxLen; omega, rfl, rfl⟩⟩
set_option maxHeartbeats 4000000 in
theorem numbersIn_calls (s : ByteArray) (w : World) (hs : s.size ≤ 4096) (hT : TabX w) :
    Calls Tryz.prog 127 #[.string s, .int .i64 5] w (NumsR w (numsS s 5)) := by
  have HSp := Lib.hid (split_calls 32 s w hs hT)
  have hle := splitL_le 32 s
  have hF := nums_fold s 5
  have HY := Lib.hid (numFold_yes 5 (splitL 32 s) [])
  rw [← hF] at HY
  have HO := Lib.hid (numFold_of 5 (splitL 32 s) [])
  rw [← hF] at HO
  clear hF
  have HSz := Lib.hid (fun p (hp : p ∈ splitL 32 s) => show p.size ≤ s.size from by
    unfold splitL at hp
    rw [← pcs_split] at hp
    exact pcs_size s _ _ _ p hp)
  generalize splitL 32 s = ps at *
  obtain ⟨r, hr⟩ : ∃ r, numsS s 5 = r := ⟨_, rfl⟩
  rw [hr] at HY HO ⊢
  clear hr
  have mk5c := mk5c
  by_cases h5 : ps.length = 5
  · have e1 : ((ps.length : Int) == 5) = true := by simp; omega
    have e2 : ((ps.length : Int) != 5) = false := by simp; omega
    obtain ⟨xs, hxs⟩ : ∃ xs, xs = ps.map fun p => (numS p).1 := ⟨_, rfl⟩
    have hxl : xs.length = 5 := by rw [hxs, List.length_map, h5]
    have HXL := Lib.hid hxl
    have HF := Lib.hid (fun k hk => fill5 xs k hk)
    have HX := Lib.hid (fun k (hk : k < ps.length) => show xs.getD k 0 = (numS (ps.getD k ByteArray.empty)).1 from by
      rw [hxs, List.getD_eq_getElem?_getD, List.getElem?_map, List.getElem?_eq_getElem hk, List.getD_eq_getElem?_getD, List.getElem?_eq_getElem hk]
      rfl)
    have HMem := Lib.hid (fun k (hk : k < ps.length) => show ps.getD k ByteArray.empty ∈ ps from by
      rw [List.getD_eq_getElem?_getD, List.getElem?_eq_getElem hk]
      exact List.getElem_mem hk)
    have HAll := Lib.hid (fun h => show r = (xs, true) from by
      have := HO.out h (by simp; omega)
      rw [List.nil_append, ← hxs] at this
      exact this)
    have HZ := Lib.hid (show ([0, 0, 0, 0, 0] : List Int) = xs.take 0 ++ List.replicate (xs.length - 0) 0 from by rw [hxl]; rfl)
    have H5 := Lib.hid h5
    clear hxs hxl h5 HO
    go_enter Tryz.func127, Tryz.ntmps127
    go_wp2_with fail
    refine HSp.out.mono ?_
    rintro e w1 ⟨rfl, hc, b1, hg, hty⟩
    have HC := Lib.hid hc
    have B1 := Lib.hid b1
    have HG := Lib.hid hg
    have HOw := Lib.hid (own5c w1)
    rw [HZ.out] at HOw
    have B2 := Lib.hid ((Below.refl w1.heap.size w1).alloc (Nat.le_refl _) (.cells z5c 3))
    have HG2 := Lib.hid (show w1.heap.size < (w1.alloc (.cells z5c 3)).heap.size from by rw [alloc_size]; omega)
    clear hc b1 hg HZ
    go_wp2_with fail
    go_loopw [20] (fun i wr => ∃ k : Nat, k ≤ 5 ∧ i = .int .i64 (k : Int) ∧ Hid (Own wr w1.heap.size (.slice (some ⟨w1.heap.size, 0, none⟩) 5 5) (xs.take k ++ List.replicate (xs.length - k) 0)) ∧ Hid (Below w1.heap.size w1 wr) ∧ Hid (w1.heap.size < wr.heap.size) ∧ Hid (∀ j, j < k → (numS (ps.getD j ByteArray.empty)).2 = true)) (fun i _ => 5 - (intOf i).toNat)
    case atStart => exact ⟨0, by omega, rfl, HOw, B2, HG2, Lib.hid (fun j hj => absurd hj (by omega))⟩
    case round =>
      obtain ⟨k, hk, rfl, ho, hb, hg, hall⟩ := hrel
      clear HOw B2 HG2
      by_cases hlt : k < 5
      · have hk5 : k < ps.length := by have := H5.out; omega
        have hk1 : (k : Int) < (ps.length : Int) := by omega
        have hk0 : (0 : Int) ≤ (k : Int) := by omega
        have hk6 : (k : Int) < 5 := by omega
        have hc := (hb.out.cell (p := ⟨w.heap.size, k, none⟩) HG.out).trans (HC.out k hk5)
        have HN := Lib.hid (fun W => numberIn_calls (ps.getD k ByteArray.empty) W (by have := HSz.out _ (HMem.out k hk5); omega))
        have hx := HX.out k hk5
        have HFk := Lib.hid (HF.out k (by have := HXL.out; omega))
        have HYk := Lib.hid (fun h => (HY.out h).1 _ (HMem.out k hk5))
        rcases hb2 : (numS (ps.getD k ByteArray.empty)).2 with _ | _
        · have HE := Lib.hid (show numE (ps.getD k ByteArray.empty) = fault aNo by unfold numE; rw [hb2]; rfl)
          have HR := Lib.hid (show r.2 = false from by
            rcases hr : r.2 with _ | _
            · rfl
            · rw [HYk.out hr] at hb2; exact absurd hb2 (by decide))
          clear hx hb2
          generalize ps.getD k ByteArray.empty = p at *
          go_wp2_with fail
          refine (HN.out _).mono ?_
          rintro e w' ⟨he, rfl⟩
          rw [HE.out] at he
          unfold fault at he
          subst he
          go_wp2_with fail
          exact ⟨rfl, by rw [if_neg (by rw [HR.out]; decide)]; rfl, B1.out.trans (hb.out.mono (Nat.le_of_lt HG.out))⟩
        · have HE := Lib.hid (show numE (ps.getD k ByteArray.empty) = .returned (.int .i64 (xs.getD k 0)) by unfold numE; rw [hb2, hx]; rfl)
          have HA2 := Lib.hid (show ∀ j, j < k + 1 → (numS (ps.getD j ByteArray.empty)).2 = true from fun j hj => by
            by_cases e : j = k
            · subst e; exact hb2
            · exact hall.out j (by omega))
          have hcell := ho.out.cell (j := k) (by rw [List.length_append, List.length_take, List.length_replicate]; have := HXL.out; omega)
          have hfree := ho.out.free k
          have HO2 := Lib.hid (ho.out.set k (xs.getD k 0))
          rw [HFk.out] at HO2
          clear hx hb2 ho hall HFk
          generalize ps.getD k ByteArray.empty = p at *
          generalize xs.getD k 0 = x at *
          go_wp2_with fail
          refine (HN.out _).mono ?_
          rintro e w' ⟨he, rfl⟩
          rw [HE.out] at he
          subst he
          go_wp2_with fail
          go_roundw
          case rel => exact ⟨k + 1, by omega, by go_num, HO2, Lib.hid (hb.out.setCell (p := ⟨w1.heap.size, k, none⟩) (Nat.le_refl _) _), Lib.hid (by simp; exact hg.out), HA2⟩
          case measure => simp [intOf]; omega
      · obtain rfl : k = 5 := by omega
        have hl5 : ¬ ((5 : Int) < (ps.length : Int)) := by have := H5.out; omega
        have HR := Lib.hid (HAll.out fun p hp => by
          obtain ⟨j, hj, rfl⟩ := List.getElem_of_mem hp
          have := hall.out j (by have := H5.out; omega)
          rw [List.getD_eq_getElem?_getD, List.getElem?_eq_getElem hj] at this
          exact this)
        have hfin := ho.out
        rw [List.take_of_length_le (by rw [HXL.out]; omega), HXL.out, Nat.sub_self, List.replicate_zero, List.append_nil] at hfin
        have HFin := Lib.hid (hfin.weak (Nat.le_of_lt HG.out))
        have HB2 := Lib.hid (B1.out.trans (hb.out.mono (Nat.le_of_lt HG.out)))
        clear hfin hall
        go_wp2_with fail
        go_ret
        exact ⟨by rw [if_pos (by rw [HR.out])]; exact ⟨_, rfl, by rw [HR.out]; exact HFin.out⟩, HB2.out⟩
  · have hno : r.2 = false := by
      rcases hb : r.2 with _ | _
      · rfl
      · have := (HY.out hb).2.1
        simp at this
        omega
    have e1 : ((ps.length : Int) == 5) = false := by simp; omega
    have e2 : ((ps.length : Int) != 5) = true := by simp; omega
    have HR := Lib.hid hno
    clear h5 hno
    go_enter Tryz.func127, Tryz.ntmps127
    go_wp2_with fail
    refine HSp.out.mono ?_
    rintro e w1 ⟨rfl, hc, b1, hg, hty⟩
    go_wp2_with fail
    exact ⟨rfl, by rw [if_neg (by rw [HR.out]; decide)]; rfl, b1⟩

/-! ### The lines of a script -/
def linesL (s : ByteArray) : List ByteArray := (partsAt 10 s.data.toList []).map BA
theorem splitL_lines (s : ByteArray) : splitL 10 s = linesL s ++ [BA (tailAt 10 s.data.toList [])] := by
  unfold splitL linesL
  rw [splitB_parts, List.map_append]
  rfl
set_option maxHeartbeats 2000000 in
theorem completeLines_calls (s : ByteArray) (w : World) (hs : s.size ≤ 4096) (hT : TabX w) :
    Calls Tryz.prog 31 #[.string s] w fun e w' => e = .returned (.slice (some ⟨w.heap.size, 0, none⟩) (linesL s).length ((linesL s).length + 1)) ∧ (∀ j, j < (linesL s).length → w'.cell? ⟨w.heap.size, j, none⟩ = some (.string ((linesL s).getD j ByteArray.empty))) ∧ Below w.heap.size w w' ∧ w.heap.size < w'.heap.size ∧ (∃ cs, w'.heap[w.heap.size]? = some (.cells cs 9 (0, 0))) := by
  have HSp := Lib.hid (split_calls 10 s w hs hT)
  have hle := splitL_le 10 s
  rw [splitL_lines] at HSp hle
  have hl : (linesL s ++ [BA (tailAt 10 s.data.toList [])]).length = (linesL s).length + 1 := by rw [List.length_append]; rfl
  have HC := Lib.hid (fun j (hj : j < (linesL s).length) => show (linesL s ++ [BA (tailAt 10 s.data.toList [])]).getD j ByteArray.empty = (linesL s).getD j ByteArray.empty from by
    rw [List.getD_eq_getElem?_getD, List.getElem?_append_left hj, List.getD_eq_getElem?_getD])
  rw [hl] at hle
  rw [hl] at HSp
  generalize linesL s ++ [BA (tailAt 10 s.data.toList [])] = M at *
  obtain ⟨n, hn⟩ : ∃ n, n = (linesL s).length := ⟨_, rfl⟩
  rw [← hn] at HSp HC hle ⊢
  generalize linesL s = L at *
  clear hl hn
  have n0 : (0 : Int) ≤ (n : Int) := by omega
  have n1 : (n : Int) ≤ (n : Int) + 1 := by omega
  have nw : wrap64 ((n : Int) + 1 - 1) = (n : Int) := by unfold wrap64; omega
  go_enter Tryz.func31, Tryz.ntmps31
  go_wp2_with fail
  refine HSp.out.mono ?_
  rintro e w1 ⟨rfl, hc, b1, hg, hty⟩
  have HCC := Lib.hid hc
  clear hc
  go_wp2_with fail
  go_ret
  exact ⟨rfl, fun j hj => by rw [HCC.out j (by omega), HC.out j hj], b1, hg, hty⟩
end Go.Proofs.YtcfhfllcdliaoaaGreatDoor