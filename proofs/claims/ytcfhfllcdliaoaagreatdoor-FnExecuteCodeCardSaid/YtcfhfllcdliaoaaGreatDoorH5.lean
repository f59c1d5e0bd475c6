import Derived.Test.YtcfhfllcdliaoaaGreatDoorChecked
import Derived.Test.YtcfhfllcdliaoaaGreatDoorShelf
import Derived.WalkKit
import Derived.Outline
import Derived.WalkLawsBesides
import Derived.WalkSpells
import Derived.Lib.Builder
import Derived.Lib.Walk
import Derived.Laws.Externs
import Derived.OwnWalk
import Derived.Test.YtcfhfllcdliaoaaGreatDoorQ3
import Derived.PlainAid
import Derived.Lib.UnsafeStr
import Derived.Laws.Concat
/- strings.Builder over this dump: what copyCheck and WriteByte do (String is the shelf's own contract). -/
namespace Go.Proofs.YtcfhfllcdliaoaaGreatDoor
open Go.RowKit
set_option linter.unusedVariables false

theorem bdSize : (Tryz.prog.info? 42).map (·.size) = some 2 := by kernel_rfl
theorem bdLies : liesAt Tryz.prog Tryz.prog.depth 42 (2 / Tryz.prog.cellsOf 42) 0 42 1 = true := by kernel_rfl
theorem byteInfo : (Tryz.prog.info? 5).map (fun i => (i.zero, i.size, i.bytes)) = some (some (.int .u8 0), 1, 1) := by kernel_rfl

set_option maxHeartbeats 1000000 in
set_option maxRecDepth 100000 in
theorem copyCheck_used (b : Nat) (w : World) (h0 : w.cell? ⟨b, 0, none⟩ = some (.pointer (some ⟨b, 0, none⟩))) :
    Calls Tryz.prog 53 #[.pointer (some ⟨b, 0, none⟩)] w fun e w' => e = .returned (.tuple #[]) ∧ w' = w := by
  obtain ⟨j, hj, _⟩ := Option.map_eq_some_iff.1 bdSize
  go_enter Tryz.func53, Tryz.ntmps53
  go_wp2
  rw [Lib.run_neq_ptr_same w _ Tryz.underlying40 hj]
  go_wp2
  go_end0
  exact ⟨rfl, rfl⟩
set_option maxHeartbeats 1000000 in
set_option maxRecDepth 100000 in
theorem copyCheck_fresh (b : Nat) (w : World) (h0 : w.cell? ⟨b, 0, none⟩ = some (.pointer none)) (hsh : w.shape? b = some (42, 2)) (hfz : w.frozen? ⟨b, 0, none⟩ = false) :
    Calls Tryz.prog 53 #[.pointer (some ⟨b, 0, none⟩)] w fun e w' => e = .returned (.tuple #[]) ∧ w' = w.setCell ⟨b, 0, none⟩ (.pointer (some ⟨b, 0, none⟩)) := by
  obtain ⟨j, hj, hjs⟩ := Option.map_eq_some_iff.1 bdSize
  go_enter Tryz.func53, Tryz.ntmps53
  go_wp2
  rw [Lib.run_to_unsafe w ⟨b, 0, none⟩ Tryz.underlying40 Tryz.underlying108 hj (by rw [hjs]; decide) hsh (Nat.zero_lt_succ 1)]
  simp only [Result.andThen]
  rw [Oper.upon_value]
  go_wp2
  rw [run_callFunc_extern Tryz.func79 (by kernel_rfl) (by kernel_rfl) (by kernel_rfl) (e := Extern.AbiNoEscape.same) (by kernel_rfl)]
  rw [Lib.run_noEscape]
  simp only [Result.andThen]
  rw [Oper.upon_value]
  go_wp2
  rw [Lib.run_from_unsafe w ⟨b, 0, none⟩ Tryz.underlying108 Tryz.underlying40 hj hsh bdLies]
  simp only [Result.andThen]
  rw [Oper.upon_value]
  go_wp2
  go_end0
  exact ⟨rfl, rfl⟩
theorem copyCheck_calls (B b : Nat) (bs : List Value) (w : World) (h : Lib.IsBuilder 42 5 B b bs w) :
    Calls Tryz.prog 53 #[.pointer (some ⟨b, 0, none⟩)] w fun e w' => e = .returned (.tuple #[]) ∧ (Lib.BuilderAt 42 5 B b (.pointer (some ⟨b, 0, none⟩)) bs w' ∧ Below B w w') := by
  rcases h with h | h
  · refine (copyCheck_fresh b w h.cell0 h.shape h.frozen0).mono ?_
    rintro e w' ⟨rfl, rfl⟩
    exact ⟨rfl, h.used _, (Below.refl B w).setCell (p := ⟨b, 0, none⟩) h.1 _⟩
  · refine (copyCheck_used b w h.cell0).mono ?_
    rintro e w' ⟨rfl, rfl⟩
    exact ⟨rfl, h, Below.refl B _⟩

set_option maxHeartbeats 2000000 in
set_option maxRecDepth 100000 in
theorem writeByte_calls (B b : Nat) (bs : List Value) (c : Int) (w : World) (h : Lib.IsBuilder 42 5 B b bs w) (hlen : bs.length + 1 ≤ 1048576) (hBw : B ≤ w.heap.size) :
    Calls Tryz.prog 34 #[.pointer (some ⟨b, 0, none⟩), .int .u8 c] w fun e w' => e = .returned .nilIface ∧ (Lib.BuilderAt 42 5 B b (.pointer (some ⟨b, 0, none⟩)) (bs ++ [.int .u8 c]) w' ∧ Below B w w') := by
  obtain ⟨i0, hi, hz0, hz1, hz2⟩ := info_parts byteInfo
  go_enter Tryz.func34, Tryz.ntmps34
  go_wp2_with (go_at_call 53; refine (copyCheck_calls B b bs _ h).mono ?_)
  rintro e w1 ⟨rfl, h1, hb1⟩
  obtain ⟨hB, v, hbk, hown, hne⟩ := h1
  have c0 : w1.cell? ⟨b, 0, none⟩ = some (.pointer (some ⟨b, 0, none⟩)) := by rw [Lib.cell_of_heap hbk]; rfl
  have c1 : w1.cell? ⟨b, 1, none⟩ = some v := by rw [Lib.cell_of_heap hbk]; rfl
  go_wp2_with (at_builtin; refine wpList_append_own _ rfl _ _ 22 rfl B 5 i0 (.int .u8 0) 1 1 Tryz.underlying22 hi hz0 hz1 hz2 rfl (by decide) _ _ _ rfl (hown.alloc _) ⟨w1.heap.size, 0, none⟩ 1 1 [.int .u8 c] rfl rfl ?c1 ?c2 ?c3 ?c4 ?c5 ?_)
  case c1 =>
    intro j u hj
    match j, hj with
    | 0, hj => simp at hj; subst hj; simp [Addr.add]
  case c2 => intro u hu; simp at hu; subst hu; rfl
  case c3 => unfold maxLen; omega
  case c4 => omega
  case c5 => have := hb1.size; simp; omega
  intro v' w2 hown' hgrow _
  have hlt : b < w1.heap.size := by
    rcases Nat.lt_or_ge b w1.heap.size with h' | h'
    · exact h'
    · simp [Array.getElem?_eq_none h'] at hbk
  have hb2 : w2.heap[b]? = some (.cells #[.pointer (some ⟨b, 0, none⟩), v] 42 (0, 0)) := by
    rw [hgrow.block b (by simp; omega) (fun e => hne e.symm), Lib.alloc_old w1 _ b hlt]
    exact hbk
  have d0 : w2.cell? ⟨b, 0, none⟩ = some (.pointer (some ⟨b, 0, none⟩)) := by rw [Lib.cell_of_heap hb2]; rfl
  have d1 : w2.cell? ⟨b, 1, none⟩ = some v := by rw [Lib.cell_of_heap hb2]; rfl
  have f1 : w2.frozen? ⟨b, 1, none⟩ = false := Lib.frozen_of_heap hb2 1
  obtain ⟨g, cap, rfl⟩ : ∃ g cap, v' = .slice (some ⟨g, 0, none⟩) (bs.length + 1) cap := by
    rcases hown'.2 with ⟨_, h0⟩ | ⟨g, cap, cur, hv, _⟩
    · omega
    · exact ⟨g, cap, hv⟩
  go_wp2
  go_ret
  refine ⟨rfl, ?_, ?_⟩
  · exact Lib.BuilderAt.put (T := 42) (e := 5) hB hb2 (bs' := bs ++ [.int .u8 c]) (by simpa using hown') (by decide)
  · exact ((hb1.alloc (by have := hb1.size; omega) _).grown hgrow (by have := hb1.size; simp; omega) (fun k hk => (hown.lt k hk).1)).setCell (p := ⟨b, 1, none⟩) hB _
end Go.Proofs.YtcfhfllcdliaoaaGreatDoor
/- Contracts of WordRead, of the program and of its model. -/
namespace Go.Proofs.YtcfhfllcdliaoaaGreatDoor
open Go.RowKit
open Go.PlainAid (bt get_bt bt_nonneg bt_le)
set_option linter.unusedVariables false

/-- The place of the letter k of a text. -/
def plc (k : Nat) : Int := (k : Int) % 7 * 4 + (k : Int) / 7
def rdStep (k : Nat) (b t : Int) : Option Int :=
  if k % 7 = 6 then (if b = 47 then some t else none) else if b = 120 then some (t + powI (plc k)) else if b = 46 then some t else none
def rdTo (s : ByteArray) : Nat → Option Int
  | 0 => some 0
  | k + 1 => (rdTo s k).bind (rdStep k (bt s k))
def rdW (s : ByteArray) : Option Int := if s.size = 27 then rdTo s 27 else none
theorem plc_range (k : Nat) (hk : k < 27) (h6 : ¬ k % 7 = 6) : 0 ≤ plc k ∧ plc k ≤ 23 := by unfold plc; omega
theorem plc_inj (j k : Nat) (hj : j < 27) (hk : k < 27) (j6 : ¬ j % 7 = 6) (k6 : ¬ k % 7 = 6) (h : plc j = plc k) : j = k := by unfold plc at h; omega
theorem rdTo_inv (s : ByteArray) (k : Nat) (hk : k ≤ 27) : ∀ t, rdTo s k = some t → 0 ≤ t ∧ t ≤ 16777215 ∧ ∀ j, k ≤ j → j < 27 → ¬ j % 7 = 6 → bitI t (plc j) = 0 := by
  induction k with
  | zero =>
    intro t h
    simp only [rdTo, Option.some.injEq] at h
    subst h
    exact ⟨by omega, by omega, fun j _ _ _ => by simp [bitI]⟩
  | succ k ih =>
    intro t h
    simp only [rdTo, Option.bind_eq_some_iff] at h
    obtain ⟨u, hu, h⟩ := h
    obtain ⟨i0, i1, i2⟩ := ih (by omega) u hu
    unfold rdStep at h
    by_cases h6 : k % 7 = 6
    · rw [if_pos h6] at h
      split at h
      · simp only [Option.some.injEq] at h; subst h
        exact ⟨i0, i1, fun j hj => i2 j (by omega)⟩
      · cases h
    · rw [if_neg h6] at h
      have hp := plc_range k (by omega) h6
      have hz := i2 k (Nat.le_refl _) (by omega) h6
      split at h
      · simp only [Option.some.injEq] at h; subst h
        have hr := addPl_range u (plc k) i0 i1 hp.1 hp.2 hz
        refine ⟨hr.1, hr.2, fun j hj hj2 hj6 => ?_⟩
        have hq := plc_range j hj2 hj6
        rw [bit_add u (plc k) (plc j) i0 hp.1 hq.1 hz, if_neg (fun e => by have := plc_inj j k hj2 (by omega) hj6 h6 e; omega)]
        exact i2 j (by omega) hj2 hj6
      · split at h
        · simp only [Option.some.injEq] at h; subst h
          exact ⟨i0, i1, fun j hj => i2 j (by omega)⟩
        · cases h
theorem rdTo_none (s : ByteArray) (k n : Nat) (h : k ≤ n) (hn : rdTo s k = none) : rdTo s n = none := by
  induction n with
  | zero => rw [show k = 0 by omega] at hn; cases hn
  | succ n ih =>
    by_cases e : k = n + 1
    · rw [← e]; exact hn
    · simp only [rdTo, ih (by omega), Option.bind_none]
theorem rdW_none (s : ByteArray) (k : Nat) (h : k ≤ 27) (hn : rdTo s k = none) : rdW s = none := by
  unfold rdW; rw [rdTo_none s k 27 h hn]; simp
theorem rdTo_step (s : ByteArray) (k : Nat) (t : Int) (h : rdTo s k = some t) : rdTo s (k + 1) = rdStep k (bt s k) t := by simp only [rdTo, h, Option.bind_some]
theorem rdW_size (s : ByteArray) (h : s.size ≠ 27) : rdW s = none := by unfold rdW; rw [if_neg h]
theorem rdW_all (s : ByteArray) (h : s.size = 27) (k : Nat) (hk : 27 ≤ k) (hk2 : k ≤ 27) : rdW s = rdTo s k := by unfold rdW; rw [if_pos h, show k = 27 by omega]
theorem rdStep_slash (k : Nat) (b t : Int) (h6 : k % 7 = 6) (hb : b = 47) : rdStep k b t = some t := by simp [rdStep, h6, hb]
theorem rdStep_no6 (k : Nat) (b t : Int) (h6 : k % 7 = 6) (hb : b ≠ 47) : rdStep k b t = none := by simp [rdStep, h6, hb]
theorem rdStep_x (k : Nat) (b t : Int) (h6 : ¬ k % 7 = 6) (hb : b = 120) : rdStep k b t = some (t + powI (plc k)) := by simp [rdStep, h6, hb]
theorem rdStep_dot (k : Nat) (b t : Int) (h6 : ¬ k % 7 = 6) (hb : b = 46) : rdStep k b t = some t := by simp [rdStep, h6, hb]
theorem rdStep_no (k : Nat) (b t : Int) (h6 : ¬ k % 7 = 6) (hb : b ≠ 120) (hc : b ≠ 46) : rdStep k b t = none := by simp [rdStep, h6, hb, hc]


set_option maxHeartbeats 1000000 in
theorem iWordRead_calls (s : ByteArray) (w : World) (hs : s.size ≤ maxLen) :
    Calls Tryz.prog 125 #[.string s] w fun e w' => e = .returned (resW (rdW s)) ∧ w = w' := by
  unfold maxLen at hs
  have hget := get_bt s
  by_cases h27 : s.size = 27
  · have H27 := Lib.hid h27
    have l27 : s.size ≤ 27 := by omega
    have g27 : 27 ≤ s.size := by omega
    have t27 : ((s.size : Int) != 27) = false := by rw [h27]; rfl
    clear h27 hs
    go_enter Tryz.func125, Tryz.ntmps125
    go_wp2
    go_loop [4, 14] (fun t i => ∃ (k : Nat) (T : Int), k ≤ 27 ∧ i = .int .i64 k ∧ t = .int .u32 T ∧ Hid (rdTo s k = some T)) (fun _ i => 27 - (intOf i).toNat)
    case atStart => exact ⟨0, 0, Nat.zero_le _, rfl, rfl, Lib.hid rfl⟩
    case round =>
      obtain ⟨k, T, hk, rfl, rfl, ht⟩ := hrel
      obtain ⟨hT0, hT1, hinv⟩ := rdTo_inv s k hk T ht.out
      by_cases hlt : k < 27
      · have hz := hinv k (Nat.le_refl _) hlt
        clear hinv
        have hstep := rdTo_step s k T ht.out
        have b0 := bt_nonneg s k
        have b1 := bt_le s k
        have hlt' : k < s.size := by omega
        clear ht
        by_cases h6 : k % 7 = 6
        · have c6 : ((k : Int) % 7 == 6) = true := by simp; omega
          have d6 : decide ((k : Int) % 7 < 6) = false := by simp; omega
          clear hz
          by_cases hb : bt s k = 47
          · have HS := Lib.hid (hstep.trans (rdStep_slash k _ T h6 hb))
            have e47 : (bt s k == 47) = true := by simp; omega
            have n47 : (bt s k != 47) = false := by simp; omega
            have e46 : (bt s k == 46) = false := by simp; omega
            have n46 : (bt s k != 46) = true := by simp; omega
            have e120 : (bt s k == 120) = false := by simp; omega
            have n120 : (bt s k != 120) = true := by simp; omega
            clear hstep h6 hb b0 b1
            go_wp2_with fail
            go_round
            case rel => exact ⟨k + 1, T, by omega, by go_num, rfl, HS⟩
            case measure => simp [intOf]; omega
          · have HS := Lib.hid (rdW_none s (k + 1) (by omega) (hstep.trans (rdStep_no6 k _ T h6 hb)))
            have e47 : (bt s k == 47) = false := by simp; omega
            have n47 : (bt s k != 47) = true := by simp; omega
            clear hstep h6 hb b0 b1
            go_wp2_with fail
            go_ret2
            exact ⟨by rw [HS.out]; rfl, rfl⟩
        · have c6 : ((k : Int) % 7 == 6) = false := by simp; omega
          have d6 : decide ((k : Int) % 7 < 6) = true := by simp; omega
          have hp := plc_range k hlt h6
          have hz := hz h6
          by_cases hb : bt s k = 120
          · have HS := Lib.hid (hstep.trans (rdStep_x k _ T h6 hb))
            have hr := addPl_range T (plc k) hT0 hT1 hp.1 hp.2 hz
            have hq := pow_val (plc k) hp.1 hp.2
            have HX := Lib.hid (show xorI T (powI ((k : Int) % 7 * 4 + (k : Int) / 7)) = T + powI (plc k) from xor_pow T (plc k) hT0 hp.1 hz)
            have e47 : (bt s k == 47) = false := by simp; omega
            have n47 : (bt s k != 47) = true := by simp; omega
            have e46 : (bt s k == 46) = false := by simp; omega
            have n46 : (bt s k != 46) = true := by simp; omega
            have e120 : (bt s k == 120) = true := by simp; omega
            have n120 : (bt s k != 120) = false := by simp; omega
            have g0 : 0 ≤ (k : Int) % 7 * 4 + (k : Int) / 7 := by omega
            have g1 : (k : Int) % 7 * 4 + (k : Int) / 7 ≤ 23 := by omega
            have g2 : (k : Int) / 7 ≤ 3 := by omega
            have g3 : (k : Int) % 7 ≤ 5 := by omega
            have q0 := powI_pos ((k : Int) % 7 * 4 + (k : Int) / 7)
            have q1 := powI_le ((k : Int) % 7 * 4 + (k : Int) / 7) g0 g1
            clear hstep h6 hb b0 b1 hz hr hp hq
            go_wp2_with (first
              | (go_at_call 65; refine (placeAt_calls _ _ _ (by omega) (by omega) (by omega) (by omega)).mono ?_; rintro e w' ⟨rfl, rfl⟩)
              | (go_at_call 109; refine (wordAt_calls _ _ (by omega) (by omega)).mono ?_; rintro e w' ⟨rfl, rfl⟩)
              | (go_at_call 69; refine (word_add _ _ _ (by omega) (by omega) (by omega) (by omega)).mono ?_; rintro e w' ⟨rfl, rfl⟩))
            go_round
            case rel => exact ⟨k + 1, T + powI (plc k), by omega, by go_num, by rw [HX.out], HS⟩
            case measure => simp [intOf]; omega
          · by_cases hc : bt s k = 46
            · have HS := Lib.hid (hstep.trans (rdStep_dot k _ T h6 hc))
              have e47 : (bt s k == 47) = false := by simp; omega
              have n47 : (bt s k != 47) = true := by simp; omega
              have e46 : (bt s k == 46) = true := by simp; omega
              have n46 : (bt s k != 46) = false := by simp; omega
              have e120 : (bt s k == 120) = false := by simp; omega
              have n120 : (bt s k != 120) = true := by simp; omega
              clear hstep h6 hb hc b0 b1 hz hp
              go_wp2_with fail
              go_round
              case rel => exact ⟨k + 1, T, by omega, by go_num, rfl, HS⟩
              case measure => simp [intOf]; omega
            · have HS := Lib.hid (rdW_none s (k + 1) (by omega) (hstep.trans (rdStep_no k _ T h6 hb hc)))
              have e46 : (bt s k == 46) = false := by simp; omega
              have n46 : (bt s k != 46) = true := by simp; omega
              have e120 : (bt s k == 120) = false := by simp; omega
              have n120 : (bt s k != 120) = true := by simp; omega
              clear hstep h6 hb hc b0 b1 hz hp
              go_wp2_with fail
              go_ret2
              exact ⟨by rw [HS.out]; rfl, rfl⟩
      · have HS := Lib.hid ((rdW_all s H27.out k (by omega) hk).trans ht.out)
        clear hinv ht
        go_wp2
        go_ret2
        exact ⟨by rw [HS.out]; rfl, rfl⟩
  · have HS := Lib.hid (rdW_size s h27)
    have t27 : ((s.size : Int) != 27) = true := by simp; omega
    clear h27
    go_enter Tryz.func125, Tryz.ntmps125
    go_wp2
    go_ret2
    exact ⟨by rw [HS.out]; rfl, rfl⟩

set_option maxHeartbeats 1000000 in
theorem sWordRead_calls (s : ByteArray) (w : World) (hs : s.size ≤ maxLen) :
    Calls Tryz.prog 104 #[.string s] w fun e w' => e = .returned (resW (rdW s)) ∧ w = w' := by
  unfold maxLen at hs
  have hget := get_bt s
  by_cases h27 : s.size = 27
  · have H27 := Lib.hid h27
    have l27 : s.size ≤ 27 := by omega
    have g27 : 27 ≤ s.size := by omega
    have t27 : ((s.size : Int) != 27) = false := by rw [h27]; rfl
    clear h27 hs
    go_enter Tryz.func104, Tryz.ntmps104
    go_wp2
    go_loop [4, 5] (fun t i => ∃ (k : Nat) (T : Int), k ≤ 27 ∧ i = .int .i64 k ∧ t = .int .i64 T ∧ Hid (rdTo s k = some T)) (fun _ i => 27 - (intOf i).toNat)
    case atStart => exact ⟨0, 0, Nat.zero_le _, rfl, rfl, Lib.hid rfl⟩
    case round =>
      obtain ⟨k, T, hk, rfl, rfl, ht⟩ := hrel
      obtain ⟨hT0, hT1, hinv⟩ := rdTo_inv s k hk T ht.out
      by_cases hlt : k < 27
      · have hz := hinv k (Nat.le_refl _) hlt
        clear hinv
        have hstep := rdTo_step s k T ht.out
        have b0 := bt_nonneg s k
        have b1 := bt_le s k
        have hlt' : k < s.size := by omega
        clear ht
        by_cases h6 : k % 7 = 6
        · have c6 : ((k : Int) % 7 == 6) = true := by simp; omega
          have d6 : decide ((k : Int) % 7 < 6) = false := by simp; omega
          clear hz
          by_cases hb : bt s k = 47
          · have HS := Lib.hid (hstep.trans (rdStep_slash k _ T h6 hb))
            have e47 : (bt s k == 47) = true := by simp; omega
            have n47 : (bt s k != 47) = false := by simp; omega
            have e46 : (bt s k == 46) = false := by simp; omega
            have n46 : (bt s k != 46) = true := by simp; omega
            have e120 : (bt s k == 120) = false := by simp; omega
            have n120 : (bt s k != 120) = true := by simp; omega
            clear hstep h6 hb b0 b1
            go_wp2_with fail
            go_round
            case rel => exact ⟨k + 1, T, by omega, by go_num, rfl, HS⟩
            case measure => simp [intOf]; omega
          · have HS := Lib.hid (rdW_none s (k + 1) (by omega) (hstep.trans (rdStep_no6 k _ T h6 hb)))
            have e47 : (bt s k == 47) = false := by simp; omega
            have n47 : (bt s k != 47) = true := by simp; omega
            clear hstep h6 hb b0 b1
            go_wp2_with fail
            go_ret2
            exact ⟨by rw [HS.out]; rfl, rfl⟩
        · have c6 : ((k : Int) % 7 == 6) = false := by simp; omega
          have d6 : decide ((k : Int) % 7 < 6) = true := by simp; omega
          have hp := plc_range k hlt h6
          have hz := hz h6
          by_cases hb : bt s k = 120
          · have HS := Lib.hid (hstep.trans (rdStep_x k _ T h6 hb))
            have hr := addPl_range T (plc k) hT0 hT1 hp.1 hp.2 hz
            have hq := pow_val (plc k) hp.1 hp.2
            have HX := Lib.hid (show wrap64 (T + wrap64 (2 ^ (4 * (k % 7) + k / 7))) = T + powI (plc k) by rw [show 4 * (k % 7) + k / 7 = (plc k).toNat by unfold plc; omega]; exact wrap_pow T (plc k) hr.1 hr.2 (by omega) (by omega))
            have e47 : (bt s k == 47) = false := by simp; omega
            have n47 : (bt s k != 47) = true := by simp; omega
            have e46 : (bt s k == 46) = false := by simp; omega
            have n46 : (bt s k != 46) = true := by simp; omega
            have e120 : (bt s k == 120) = true := by simp; omega
            have n120 : (bt s k != 120) = false := by simp; omega
            have g0 : 0 ≤ (k : Int) % 7 * 4 + (k : Int) / 7 := by omega
            have g1 : (k : Int) % 7 * 4 + (k : Int) / 7 ≤ 23 := by omega
            have g2 : (k : Int) / 7 ≤ 3 := by omega
            have g3 : (k : Int) % 7 ≤ 5 := by omega
            have q0 := powI_pos ((k : Int) % 7 * 4 + (k : Int) / 7)
            have q1 := powI_le ((k : Int) % 7 * 4 + (k : Int) / 7) g0 g1
            clear hstep h6 hb b0 b1 hz hr hp hq
            go_wp2_with fail
            go_round
            case rel => exact ⟨k + 1, T + powI (plc k), by omega, by go_num, by rw [HX.out], HS⟩
            case measure => simp [intOf]; omega
          · by_cases hc : bt s k = 46
            · have HS := Lib.hid (hstep.trans (rdStep_dot k _ T h6 hc))
              have e47 : (bt s k == 47) = false := by simp; omega
              have n47 : (bt s k != 47) = true := by simp; omega
              have e46 : (bt s k == 46) = true := by simp; omega
              have n46 : (bt s k != 46) = false := by simp; omega
              have e120 : (bt s k == 120) = false := by simp; omega
              have n120 : (bt s k != 120) = true := by simp; omega
              clear hstep h6 hb hc b0 b1 hz hp
              go_wp2_with fail
              go_round
              case rel => exact ⟨k + 1, T, by omega, by go_num, rfl, HS⟩
              case measure => simp [intOf]; omega
            · have HS := Lib.hid (rdW_none s (k + 1) (by omega) (hstep.trans (rdStep_no k _ T h6 hb hc)))
              have e46 : (bt s k == 46) = false := by simp; omega
              have n46 : (bt s k != 46) = true := by simp; omega
              have e120 : (bt s k == 120) = false := by simp; omega
              have n120 : (bt s k != 120) = true := by simp; omega
              clear hstep h6 hb hc b0 b1 hz hp
              go_wp2_with fail
              go_ret2
              exact ⟨by rw [HS.out]; rfl, rfl⟩
      · have HS := Lib.hid ((rdW_all s H27.out k (by omega) hk).trans ht.out)
        clear hinv ht
        go_wp2
        go_ret2
        exact ⟨by rw [HS.out]; rfl, rfl⟩
  · have HS := Lib.hid (rdW_size s h27)
    have t27 : ((s.size : Int) != 27) = true := by simp; omega
    clear h27
    go_enter Tryz.func104, Tryz.ntmps104
    go_wp2
    go_ret2
    exact ⟨by rw [HS.out]; rfl, rfl⟩
end Go.Proofs.YtcfhfllcdliaoaaGreatDoor
/- Contracts of WordText, of the program and of its model. -/
namespace Go.Proofs.YtcfhfllcdliaoaaGreatDoor
open Go.RowKit
set_option linter.unusedVariables false

/-- The letter k of the text of a word; the first k of them. -/
def chr (n : Int) (k : Nat) : UInt8 := if k % 7 = 6 then 47 else if bitI n (plc k) = 1 then 120 else 46
def chrs (n : Int) (k : Nat) : List UInt8 := (List.range k).map (chr n)
theorem chrs_succ (n : Int) (k : Nat) : chrs n (k + 1) = chrs n k ++ [chr n k] := by simp [chrs, List.range_succ]
theorem chrs_len (n : Int) (k : Nat) : (chrs n k).length = k := by simp [chrs]
def pre (n : Int) (k : Nat) : ByteArray := ⟨(chrs n k).toArray⟩
def txt (n : Int) : ByteArray := pre n 27
theorem pre_size (n : Int) (k : Nat) : (pre n k).size = k := by simp [pre, ByteArray.size, chrs_len]
theorem pre_add (n : Int) (k : Nat) (c : UInt8) (h : chr n k = c) (hk : k ≤ 100) (w : World) : (Op.stringOp .add (pre n k) ⟨#[c]⟩).run Tryz.prog w = .ok (.string (pre n (k + 1))) w := by
  rw [run_string_add_sum w _ _ (by rw [pre_size]; simp [ByteArray.size]; omega)]
  unfold pre
  rw [chrs_succ, h]
  exact congrArg (fun s => Result.ok (Value.string s) w) (ByteArray.mk_append_mk (chrs n k) [c])
theorem chr_slash (n : Int) (r : Nat) (h : 1 ≤ r) : chr n (7 * r - 1) = 47 := by unfold chr; rw [if_pos (by omega)]
theorem plc_at (r c : Nat) (hc : c < 6) : plc (7 * r + c) = 4 * (c : Int) + r := by unfold plc; omega
theorem chr_x (n : Int) (r c : Nat) (hc : c < 6) (h : bitI n (4 * (c : Int) + r) = 1) : chr n (7 * r + c) = 120 := by unfold chr; rw [if_neg (by omega), plc_at r c hc, if_pos h]
theorem chr_dot (n : Int) (r c : Nat) (hc : c < 6) (h : ¬ bitI n (4 * (c : Int) + r) = 1) : chr n (7 * r + c) = 46 := by unfold chr; rw [if_neg (by omega), plc_at r c hc, if_neg h]

set_option maxHeartbeats 1000000 in
theorem sWordText_ok (n : Int) (w : World) (h : IsW n) :
    Calls Tryz.prog 17 #[.int .i64 n] w fun e w' => e = .returned (.tuple #[.string (txt n), .bool true]) ∧ w = w' := by
  obtain ⟨n0, n1⟩ := h
  go_enter Tryz.func17, Tryz.ntmps17
  go_wp2_with (go_at_call 42; refine (sWordValid_ok _ _ (by omega) (by omega)).mono ?_; rintro e w' ⟨rfl, rfl⟩)
  go_loop [4, 5, 6] (fun o i _ => ∃ r m : Nat, r ≤ 4 ∧ i = .int .i64 r ∧ o = .string (pre n m) ∧ Hid (m = 7 * r - 1)) (fun _ i _ => 4 - (intOf i).toNat)
  case atStart => exact ⟨0, 0, by omega, rfl, rfl, Lib.hid rfl⟩
  case round =>
    obtain ⟨r, m, hr, rfl, rfl, hm⟩ := hrel
    by_cases hlt : r < 4
    · by_cases h0 : 0 < r
      all_goals
        first
          | (have hadd : ∀ w, (Op.stringOp .add (pre n m) ⟨#[47]⟩).run Tryz.prog w = .ok (.string (pre n (7 * r))) w := by
               have := pre_add n (7 * r - 1) 47 (chr_slash n r (by omega)) (by omega)
               rw [show 7 * r - 1 + 1 = 7 * r by omega] at this
               rw [hm.out]
               exact this
             clear hm
             go_wp2
             clear hadd)
          | (obtain rfl : m = 7 * r := by have := hm.out; omega
             clear hm
             go_wp2)
      all_goals
        go_loop [4, 6] (fun o i => ∃ c : Nat, c ≤ 6 ∧ i = .int .i64 c ∧ o = .string (pre n (7 * r + c))) (fun _ i => 6 - (intOf i).toNat)
        case atStart => exact ⟨0, by omega, rfl, rfl⟩
        case round =>
          obtain ⟨c, hc, rfl, rfl⟩ := hrel
          by_cases hlc : c < 6
          · by_cases hb : bitI n (4 * (c : Int) + r) = 1
            · have hadd := pre_add n (7 * r + c) 120 (chr_x n r c hlc hb) (by omega)
              have hbb : (bitI n (4 * (c : Int) + r) == 1) = true := by simpa using hb
              clear hb
              go_wp2_with (go_at_call 43; refine (l1Bit_calls _ _ _ (by omega) (by omega)).mono ?_; rintro e w' ⟨rfl, rfl⟩)
              go_round
              case rel => exact ⟨c + 1, by omega, by go_num, rfl⟩
              case measure => simp [intOf]; omega
            · have hadd := pre_add n (7 * r + c) 46 (chr_dot n r c hlc hb) (by omega)
              have hbb : (bitI n (4 * (c : Int) + r) == 1) = false := by simpa using hb
              clear hb
              go_wp2_with (go_at_call 43; refine (l1Bit_calls _ _ _ (by omega) (by omega)).mono ?_; rintro e w' ⟨rfl, rfl⟩)
              go_round
              case rel => exact ⟨c + 1, by omega, by go_num, rfl⟩
              case measure => simp [intOf]; omega
          · go_wp2
            go_round
            case rel => exact ⟨r + 1, 7 * r + c, by omega, by go_num, rfl, Lib.hid (by omega)⟩
            case measure => simp [intOf]; omega
    · obtain rfl : m = 27 := by have := hm.out; omega
      clear hm
      go_wp2
      go_ret2
      exact ⟨rfl, rfl⟩
theorem sWordText_no (n : Int) (w : World) (h : NoW n) :
    Calls Tryz.prog 17 #[.int .i64 n] w fun e w' => e = .returned (.tuple #[.string ⟨#[]⟩, .bool false]) ∧ w = w' := by
  go_enter Tryz.func17, Tryz.ntmps17
  go_wp2_with (go_at_call 42; refine (sWordValid_no _ _ h).mono ?_; rintro e w' ⟨rfl, rfl⟩)
  go_ret2
  exact ⟨rfl, rfl⟩

theorem byteCells_succ (n : Int) (k : Nat) (c : UInt8) (h : chr n k = c) : Lib.byteCells (chrs n (k + 1)) = Lib.byteCells (chrs n k) ++ [.int .u8 c.toNat] := by
  rw [chrs_succ, h]; simp [Lib.byteCells]
theorem byteCells_len (n : Int) (k : Nat) : (Lib.byteCells (chrs n k)).length = k := by simp [Lib.byteCells, chrs_len]
/-- A builder of the call's own at block b that holds the first m letters. -/
def Bld (w0 w : World) (b : Nat) (n : Int) (m : Nat) : Prop :=
  Lib.IsBuilder 42 5 w0.heap.size b (Lib.byteCells (chrs n m)) w ∧ Below w0.heap.size w0 w
theorem write_letter (w0 w : World) (b : Nat) (n : Int) (m : Nat) (c : UInt8) (h : Bld w0 w b n m) (hc : chr n m = c) (hm : m ≤ 100) :
    Calls Tryz.prog 34 #[.pointer (some ⟨b, 0, none⟩), .int .u8 c.toNat] w fun e w' => e = .returned .nilIface ∧ Bld w0 w' b n (m + 1) := by
  refine (writeByte_calls w0.heap.size b _ _ w h.1 (by rw [byteCells_len]; omega) h.2.size).mono ?_
  rintro e w' ⟨rfl, h1, h2⟩
  refine ⟨rfl, ?_, h.2.trans h2⟩
  rw [byteCells_succ n m c hc]
  exact .inr h1
set_option maxHeartbeats 2000000 in
set_option maxRecDepth 100000 in
theorem word_text (n : Int) (w : World) (h0 : 0 ≤ n) (h1 : n ≤ 16777215) :
    Calls Tryz.prog 41 #[.int .u32 n] w fun e w' => e = .returned (.string (txt n)) ∧ Below w.heap.size w w' := by
  have HB := Lib.hid (show Bld w (w.alloc (.cells #[.pointer none, .slice none 0 0] 42)) w.heap.size n 0 from
    ⟨.inl ⟨Nat.le_refl _, _, heap_alloc_new w _, World.ownsRow_nil _ _ _ _, by simp [Value.ownBlock]⟩, (Below.refl _ _).alloc (Nat.le_refl _) _⟩)
  go_enter Tryz.func41, Tryz.ntmps41
  go_wp2
  go_loopw [5, 4, 6, 12] (fun _ _ i _ wr => ∃ r m : Nat, r ≤ 4 ∧ i = .int .i64 r ∧ Hid (Bld w wr w.heap.size n m) ∧ Hid (m = 7 * r - 1)) (fun _ _ i _ _ => 4 - (intOf i).toNat)
  case atStart => exact ⟨0, 0, by omega, rfl, HB, Lib.hid rfl⟩
  case round =>
    obtain ⟨r, m, hr, rfl, hbd, hm⟩ := hrel
    clear HB
    by_cases hlt : r < 4
    · have hd4 : decide ((r : Int) < 4) = true := by simp; omega
      by_cases hr0 : 0 < r
      all_goals
        first
          | (have hs : chr n m = 47 := by rw [hm.out]; exact chr_slash n r (by omega)
             have HE := Lib.hid (show m + 1 = 7 * r by have := hm.out; omega)
             have HS := Lib.hid hs
             clear hs hm
             go_wp2_with (go_at_call 34; refine (write_letter w _ _ n m 47 hbd.out HS.out (by have := HE.out; omega)).mono ?_; rintro e w1 ⟨rfl, hb1⟩)
             rw [HE.out] at hb1
             have HB1 := Lib.hid hb1
             clear hb1 hbd HS HE)
          | (obtain rfl : m = 7 * r := by have := hm.out; omega
             clear hm
             have HB1 := hbd
             clear hbd
             go_wp2)
      all_goals
        go_loopw [12] (fun i wr => ∃ c : Nat, c ≤ 6 ∧ i = .int .i64 c ∧ Hid (Bld w wr w.heap.size n (7 * r + c))) (fun i _ => 6 - (intOf i).toNat)
        case atStart => exact ⟨0, by omega, rfl, HB1⟩
        case round =>
          obtain ⟨c, hc, rfl, hbd⟩ := hrel
          clear HB1
          by_cases hlc : c < 6
          · by_cases hb : bitI n ((c : Int) * 4 + r) = 1
            · have HS := Lib.hid (chr_x n r c hlc (by rw [Int.mul_comm]; exact hb))
              have hbb : (bitI n ((c : Int) * 4 + r) == 1) = true := by simpa using hb
              clear hb
              go_wp2_with (first
                | (go_at_call 65; refine (placeAt_calls _ _ _ (by omega) (by omega) (by omega) (by omega)).mono ?_; rintro e w' ⟨rfl, rfl⟩)
                | (go_at_call 64; refine (word_has _ _ _ (by omega) (by omega) (by omega) (by omega)).mono ?_; rintro e w' ⟨rfl, rfl⟩)
                | (go_at_call 34; refine (write_letter w _ _ n (7 * r + c) 120 hbd.out HS.out (by omega)).mono ?_; rintro e w2 ⟨rfl, hb2⟩))
              go_roundw
              case rel => exact ⟨c + 1, by omega, by go_num, Lib.hid hb2⟩
              case measure => simp [intOf]; omega
            · have HS := Lib.hid (chr_dot n r c hlc (by rw [Int.mul_comm]; exact hb))
              have hbb : (bitI n ((c : Int) * 4 + r) == 1) = false := by simpa using hb
              clear hb
              go_wp2_with (first
                | (go_at_call 65; refine (placeAt_calls _ _ _ (by omega) (by omega) (by omega) (by omega)).mono ?_; rintro e w' ⟨rfl, rfl⟩)
                | (go_at_call 64; refine (word_has _ _ _ (by omega) (by omega) (by omega) (by omega)).mono ?_; rintro e w' ⟨rfl, rfl⟩)
                | (go_at_call 34; refine (write_letter w _ _ n (7 * r + c) 46 hbd.out HS.out (by omega)).mono ?_; rintro e w2 ⟨rfl, hb2⟩))
              go_roundw
              case rel => exact ⟨c + 1, by omega, by go_num, Lib.hid hb2⟩
              case measure => simp [intOf]; omega
          · go_wp2
            go_roundw
            case rel => exact ⟨r + 1, 7 * r + c, by omega, by go_num, hbd, Lib.hid (by omega)⟩
            case measure => simp [intOf]; omega
    · obtain rfl : m = 27 := by have := hm.out; omega
      clear hm
      have HN := Lib.hid (show chrs n 27 ≠ [] from fun e => by have := chrs_len n 27; rw [e] at this; simp at this)
      go_wp2_with (go_at_call 36; refine (Tryz.Builder_String w.heap.size w.heap.size (chrs n 27) _ hbd.out.1 HN.out).mono ?_; rintro e w2 ⟨rfl, hb2⟩)
      go_ret
      exact ⟨rfl, hbd.out.2.trans hb2⟩
theorem iWordText_ok (n : Int) (w : World) (h : IsW n) :
    Calls Tryz.prog 16 #[.int .i64 n] w fun e w' => e = .returned (.tuple #[.string (txt n), .bool true]) ∧ Below w.heap.size w w' := by
  go_enter Tryz.func16, Tryz.ntmps16
  go_wp2_with (first
    | (go_at_call 40; refine (wordFrom_ok _ _ h.1 h.2).mono ?_; rintro e w' ⟨rfl, rfl⟩)
    | (go_at_call 41; refine (word_text _ _ h.1 h.2).mono ?_; rintro e w1 ⟨rfl, hb1⟩))
  go_ret2
  exact ⟨rfl, hb1⟩
theorem iWordText_no (n : Int) (w : World) (h : NoW n) :
    Calls Tryz.prog 16 #[.int .i64 n] w fun e w' => e = .returned (.tuple #[.string ⟨#[]⟩, .bool false]) ∧ w = w' := by
  go_enter Tryz.func16, Tryz.ntmps16
  go_wp2_with (go_at_call 40; refine (wordFrom_no _ _ h).mono ?_; rintro e w' ⟨rfl, rfl⟩)
  go_ret2
  exact ⟨rfl, rfl⟩
end Go.Proofs.YtcfhfllcdliaoaaGreatDoor