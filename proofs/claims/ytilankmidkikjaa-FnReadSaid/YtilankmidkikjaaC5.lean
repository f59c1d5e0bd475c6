/- Contracts of WordText, of the program and of its model. -/
import Derived.Test.YtilankmidkikjaaC4
import Derived.Test.YtilankmidkikjaaBd
import Derived.Lib.UnsafeStr
import Derived.Laws.Concat
namespace Go.Proofs.Ytilankmidkikjaa
open Go.RowKit
set_option linter.unusedVariables false

/-- The letter k of the text of a word; the first k of them. -/
def chr (n : Int) (k : Nat) : UInt8 := if k % 7 = 6 then 47 else if bitI n (plc k) = 1 then 120 else 46
def chrs (n : Int) (k : Nat) : List UInt8 := (List.range k).map (chr n)
theorem chrs_succ (n : Int) (k : Nat) : chrs n (k + 1) = chrs n k ++ [chr n k] := by simp [chrs, List.range_succ]
theorem chrs_len (n : Int) (k : Nat) : (chrs n k).length = k := by simp [chrs]
def pre (n : Int) (k : Nat) : ByteArray := ⟨(chrs n k).toArray⟩
def txt (n : Int) : ByteArray := pre n 27
theorem pre_size (n : Int) (k : Nat) : (pre n k).size = k := by simp [pre, ByteArray.size, chrs_len]
theorem pre_add (n : Int) (k : Nat) (c : UInt8) (h : chr n k = c) (hk : k ≤ 100) (w : World) : (Op.stringOp .add (pre n k) ⟨#[c]⟩).run Try.prog w = .ok (.string (pre n (k + 1))) w := by
  rw [run_string_add_sum w _ _ (by rw [pre_size]; simp [ByteArray.size]; omega)]
  unfold pre
  rw [chrs_succ, h]
  exact congrArg (fun s => Result.ok (Value.string s) w) (ByteArray.mk_append_mk (chrs n k) [c])
theorem chr_slash (n : Int) (r : Nat) (h : 1 ≤ r) : chr n (7 * r - 1) = 47 := by unfold chr; rw [if_pos (by omega)]
theorem plc_at (r c : Nat) (hc : c < 6) : plc (7 * r + c) = 4 * (c : Int) + r := by unfold plc; omega
theorem chr_x (n : Int) (r c : Nat) (hc : c < 6) (h : bitI n (4 * (c : Int) + r) = 1) : chr n (7 * r + c) = 120 := by unfold chr; rw [if_neg (by omega), plc_at r c hc, if_pos h]
theorem chr_dot (n : Int) (r c : Nat) (hc : c < 6) (h : ¬ bitI n (4 * (c : Int) + r) = 1) : chr n (7 * r + c) = 46 := by unfold chr; rw [if_neg (by omega), plc_at r c hc, if_neg h]

set_option maxHeartbeats 1000000 in
theorem sWordText_ok (n : Int) (w : World) (h : IsW n) :
    Calls Try.prog 36 #[.int .i64 n] w fun e w' => e = .returned (.tuple #[.string (txt n), .bool true]) ∧ w = w' := by
  obtain ⟨n0, n1⟩ := h
  go_enter Try.func36, Try.ntmps36
  go_wp2_with (go_at_call 20; refine (sWordValid_ok _ _ (by omega) (by omega)).mono ?_; rintro e w' ⟨rfl, rfl⟩)
  go_loop [4, 5, 6] (fun o i _ => ∃ r m : Nat, r ≤ 4 ∧ i = .int .i64 r ∧ o = .string (pre n m) ∧ Hid (m = 7 * r - 1)) (fun _ i _ => 4 - (intOf i).toNat)
  case atStart => exact ⟨0, 0, by omega, rfl, rfl, Lib.hid rfl⟩
  case round =>
    obtain ⟨r, m, hr, rfl, rfl, hm⟩ := hrel
    by_cases hlt : r < 4
    · by_cases h0 : 0 < r
      all_goals
        first
          | (have hadd : ∀ w, (Op.stringOp .add (pre n m) ⟨#[47]⟩).run Try.prog w = .ok (.string (pre n (7 * r))) w := by
               have := pre_add n (7 * r - 1) 47 (chr_slash n r (by omega)) (by omega)
               rw [show 7 * r - 1 + 1 = 7 * r by omega] at this
               rw [hm.out]
               exact this
             clear hm
             go_wp2
             clear hadd)
          | (obtain rfl : m = 7 * r := by have := hm.out; omega
             clear hm
             go_wp2)
      all_goals
        go_loop [4, 6] (fun o i => ∃ c : Nat, c ≤ 6 ∧ i = .int .i64 c ∧ o = .string (pre n (7 * r + c))) (fun _ i => 6 - (intOf i).toNat)
        case atStart => exact ⟨0, by omega, rfl, rfl⟩
        case round =>
          obtain ⟨c, hc, rfl, rfl⟩ := hrel
          by_cases hlc : c < 6
          · by_cases hb : bitI n (4 * (c : Int) + r) = 1
            · have hadd := pre_add n (7 * r + c) 120 (chr_x n r c hlc hb) (by omega)
              have hbb : (bitI n (4 * (c : Int) + r) == 1) = true := by simpa using hb
              clear hb
              go_wp2_with (go_at_call 59; refine (l1Bit_calls _ _ _ (by omega) (by omega)).mono ?_; rintro e w' ⟨rfl, rfl⟩)
              go_round
              case rel => exact ⟨c + 1, by omega, by go_num, rfl⟩
              case measure => simp [intOf]; omega
            · have hadd := pre_add n (7 * r + c) 46 (chr_dot n r c hlc hb) (by omega)
              have hbb : (bitI n (4 * (c : Int) + r) == 1) = false := by simpa using hb
              clear hb
              go_wp2_with (go_at_call 59; refine (l1Bit_calls _ _ _ (by omega) (by omega)).mono ?_; rintro e w' ⟨rfl, rfl⟩)
              go_round
              case rel => exact ⟨c + 1, by omega, by go_num, rfl⟩
              case measure => simp [intOf]; omega
          · go_wp2
            go_round
            case rel => exact ⟨r + 1, 7 * r + c, by omega, by go_num, rfl, Lib.hid (by omega)⟩
            case measure => simp [intOf]; omega
    · obtain rfl : m = 27 := by have := hm.out; omega
      clear hm
      go_wp2
      go_ret2
      exact ⟨rfl, rfl⟩
theorem sWordText_no (n : Int) (w : World) (h : NoW n) :
    Calls Try.prog 36 #[.int .i64 n] w fun e w' => e = .returned (.tuple #[.string ⟨#[]⟩, .bool false]) ∧ w = w' := by
  go_enter Try.func36, Try.ntmps36
  go_wp2_with (go_at_call 20; refine (sWordValid_no _ _ h).mono ?_; rintro e w' ⟨rfl, rfl⟩)
  go_ret2
  exact ⟨rfl, rfl⟩

theorem byteCells_succ (n : Int) (k : Nat) (c : UInt8) (h : chr n k = c) : Lib.byteCells (chrs n (k + 1)) = Lib.byteCells (chrs n k) ++ [.int .u8 c.toNat] := by
  rw [chrs_succ, h]; simp [Lib.byteCells]
theorem byteCells_len (n : Int) (k : Nat) : (Lib.byteCells (chrs n k)).length = k := by simp [Lib.byteCells, chrs_len]
/-- A builder of the call's own at block b that holds the first m letters. -/
def Bld (w0 w : World) (b : Nat) (n : Int) (m : Nat) : Prop :=
  Lib.IsBuilder 67 5 w0.heap.size b (Lib.byteCells (chrs n m)) w ∧ Below w0.heap.size w0 w
theorem write_letter (w0 w : World) (b : Nat) (n : Int) (m : Nat) (c : UInt8) (h : Bld w0 w b n m) (hc : chr n m = c) (hm : m ≤ 100) :
    Calls Try.prog 66 #[.pointer (some ⟨b, 0, none⟩), .int .u8 c.toNat] w fun e w' => e = .returned .nilIface ∧ Bld w0 w' b n (m + 1) := by
  refine (writeByte_calls w0.heap.size b _ _ w h.1 (by rw [byteCells_len]; omega) h.2.size).mono ?_
  rintro e w' ⟨rfl, h1, h2⟩
  refine ⟨rfl, ?_, h.2.trans h2⟩
  rw [byteCells_succ n m c hc]
  exact .inr h1
set_option maxHeartbeats 2000000 in
set_option maxRecDepth 100000 in
theorem word_text (n : Int) (w : World) (h0 : 0 ≤ n) (h1 : n ≤ 16777215) :
    Calls Try.prog 60 #[.int .u32 n] w fun e w' => e = .returned (.string (txt n)) ∧ Below w.heap.size w w' := by
  have HB := Lib.hid (show Bld w (w.alloc (.cells #[.pointer none, .slice none 0 0] 67)) w.heap.size n 0 from
    ⟨.inl ⟨Nat.le_refl _, _, heap_alloc_new w _, World.ownsRow_nil _ _ _ _, by simp [Value.ownBlock]⟩, (Below.refl _ _).alloc (Nat.le_refl _) _⟩)
  go_enter Try.func60, Try.ntmps60
  go_wp2
  go_loopw [5, 4, 6, 12] (fun _ _ i _ wr => ∃ r m : Nat, r ≤ 4 ∧ i = .int .i64 r ∧ Hid (Bld w wr w.heap.size n m) ∧ Hid (m = 7 * r - 1)) (fun _ _ i _ _ => 4 - (intOf i).toNat)
  case atStart => exact ⟨0, 0, by omega, rfl, HB, Lib.hid rfl⟩
  case round =>
    obtain ⟨r, m, hr, rfl, hbd, hm⟩ := hrel
    clear HB
    by_cases hlt : r < 4
    · have hd4 : decide ((r : Int) < 4) = true := by simp; omega
      by_cases hr0 : 0 < r
      all_goals
        first
          | (have hs : chr n m = 47 := by rw [hm.out]; exact chr_slash n r (by omega)
             have HE := Lib.hid (show m + 1 = 7 * r by have := hm.out; omega)
             have HS := Lib.hid hs
             clear hs hm
             go_wp2_with (go_at_call 66; refine (write_letter w _ _ n m 47 hbd.out HS.out (by have := HE.out; omega)).mono ?_; rintro e w1 ⟨rfl, hb1⟩)
             rw [HE.out] at hb1
             have HB1 := Lib.hid hb1
             clear hb1 hbd HS HE)
          | (obtain rfl : m = 7 * r := by have := hm.out; omega
             clear hm
             have HB1 := hbd
             clear hbd
             go_wp2)
      all_goals
        go_loopw [12] (fun i wr => ∃ c : Nat, c ≤ 6 ∧ i = .int .i64 c ∧ Hid (Bld w wr w.heap.size n (7 * r + c))) (fun i _ => 6 - (intOf i).toNat)
        case atStart => exact ⟨0, by omega, rfl, HB1⟩
        case round =>
          obtain ⟨c, hc, rfl, hbd⟩ := hrel
          clear HB1
          by_cases hlc : c < 6
          · by_cases hb : bitI n ((c : Int) * 4 + r) = 1
            · have HS := Lib.hid (chr_x n r c hlc (by rw [Int.mul_comm]; exact hb))
              have hbb : (bitI n ((c : Int) * 4 + r) == 1) = true := by simpa using hb
              clear hb
              go_wp2_with (first
                | (go_at_call 61; refine (placeAt_calls _ _ _ (by omega) (by omega) (by omega) (by omega)).mono ?_; rintro e w' ⟨rfl, rfl⟩)
                | (go_at_call 57; refine (word_has _ _ _ (by omega) (by omega) (by omega) (by omega)).mono ?_; rintro e w' ⟨rfl, rfl⟩)
                | (go_at_call 66; refine (write_letter w _ _ n (7 * r + c) 120 hbd.out HS.out (by omega)).mono ?_; rintro e w2 ⟨rfl, hb2⟩))
              go_roundw
              case rel => exact ⟨c + 1, by omega, by go_num, Lib.hid hb2⟩
              case measure => simp [intOf]; omega
            · have HS := Lib.hid (chr_dot n r c hlc (by rw [Int.mul_comm]; exact hb))
              have hbb : (bitI n ((c : Int) * 4 + r) == 1) = false := by simpa using hb
              clear hb
              go_wp2_with (first
                | (go_at_call 61; refine (placeAt_calls _ _ _ (by omega) (by omega) (by omega) (by omega)).mono ?_; rintro e w' ⟨rfl, rfl⟩)
                | (go_at_call 57; refine (word_has _ _ _ (by omega) (by omega) (by omega) (by omega)).mono ?_; rintro e w' ⟨rfl, rfl⟩)
                | (go_at_call 66; refine (write_letter w _ _ n (7 * r + c) 46 hbd.out HS.out (by omega)).mono ?_; rintro e w2 ⟨rfl, hb2⟩))
              go_roundw
              case rel => exact ⟨c + 1, by omega, by go_num, Lib.hid hb2⟩
              case measure => simp [intOf]; omega
          · go_wp2
            go_roundw
            case rel => exact ⟨r + 1, 7 * r + c, by omega, by go_num, hbd, Lib.hid (by omega)⟩
            case measure => simp [intOf]; omega
    · obtain rfl : m = 27 := by have := hm.out; omega
      clear hm
      have HN := Lib.hid (show chrs n 27 ≠ [] from fun e => by have := chrs_len n 27; rw [e] at this; simp at this)
      go_wp2_with (go_at_call 67; refine (Try.Builder_String w.heap.size w.heap.size (chrs n 27) _ hbd.out.1 HN.out).mono ?_; rintro e w2 ⟨rfl, hb2⟩)
      go_ret
      exact ⟨rfl, hbd.out.2.trans hb2⟩
theorem iWordText_ok (n : Int) (w : World) (h : IsW n) :
    Calls Try.prog 35 #[.int .i64 n] w fun e w' => e = .returned (.tuple #[.string (txt n), .bool true]) ∧ Below w.heap.size w w' := by
  go_enter Try.func35, Try.ntmps35
  go_wp2_with (first
    | (go_at_call 45; refine (wordFrom_ok _ _ h.1 h.2).mono ?_; rintro e w' ⟨rfl, rfl⟩)
    | (go_at_call 60; refine (word_text _ _ h.1 h.2).mono ?_; rintro e w1 ⟨rfl, hb1⟩))
  go_ret2
  exact ⟨rfl, hb1⟩
theorem iWordText_no (n : Int) (w : World) (h : NoW n) :
    Calls Try.prog 35 #[.int .i64 n] w fun e w' => e = .returned (.tuple #[.string ⟨#[]⟩, .bool false]) ∧ w = w' := by
  go_enter Try.func35, Try.ntmps35
  go_wp2_with (go_at_call 45; refine (wordFrom_no _ _ h).mono ?_; rintro e w' ⟨rfl, rfl⟩)
  go_ret2
  exact ⟨rfl, rfl⟩
end Go.Proofs.Ytilankmidkikjaa
