/- What scripts say, for the laws: lines added behind complete lines. -/
import Derived.Test.YtcfhfllcdliaoaaGreatDoorC212
import Derived.Test.YtcfhfllcdliaoaaGreatDoorHA
namespace Go.Proofs.YtcfhfllcdliaoaaGreatDoor
open Go.RowKit
open Go.PlainAid (bt get_bt bt_nonneg bt_le)
set_option linter.unusedVariables false
set_option linter.unusedSimpArgs false
attribute [local irreducible] octS cN octF syn nearL farI

def lastW (n : Int) : List UInt8 := wWord ++ (decN n.toNat ++ [10])
def outL (r : Int × List UInt8) : List UInt8 := r.2 ++ lastW r.1
theorem execA_out {s : ByteArray} (h : s.size ≤ 600) : execA s = BA (outL (execR s)) := by
  unfold execA
  rw [if_neg (by omega)]
  rfl
theorem execA_long {s : ByteArray} (h : 600 < s.size) : execA s = BA aLong := by unfold execA; rw [if_pos h]
theorem decN_zero : decN 0 = [48] := by rw [decN_small (by omega)]; rfl
theorem execA_none : execA ⟨#[]⟩ = ⟨#[119, 111, 114, 100, 32, 48, 10]⟩ := by
  rw [execA_out (by decide)]
  show BA ([] ++ (wWord ++ (decN 0 ++ [10]))) = _
  rw [decN_zero]
  rfl
theorem BA_app (a b : List UInt8) : BA a ++ BA b = BA (a ++ b) := ByteArray.mk_append_mk a b
theorem app_BA (s : ByteArray) (b : List UInt8) : s ++ BA b = BA (s.data.toList ++ b) := BA_app s.data.toList b
theorem execR_app {s : ByteArray} (h : EndsAt 10 s.data.toList) (b : List UInt8) : execR (s ++ BA b) = (partsAt 10 b []).foldl runL (execR s) := by
  rw [app_BA, execR_parts, execR_parts, show (BA (s.data.toList ++ b)).data.toList = s.data.toList ++ b from rfl, exec_app h]
theorem execR_rng (s : ByteArray) : IsW (execR s).1 := by
  rw [execR_parts]
  have : ∀ (L : List (List UInt8)) (st : Int × List UInt8), IsW st.1 → IsW (L.foldl runL st).1 := by
    intro L
    induction L with
    | nil => exact fun st h => h
    | cons l L ih => exact fun st h => ih _ (lineA_rng h _)
  exact this _ _ ⟨by decide, by decide⟩
theorem outL_size (s : ByteArray) (h : s.size ≤ 600) : (outL (execR s)).length ≤ 700000 := by
  have key : ∀ (L : List (List UInt8)) (st : Int × List UInt8), IsW st.1 → ((L.foldl runL st).2.length ≤ st.2.length + 801 * L.length) := by
    intro L
    induction L with
    | nil => exact fun st _ => by simp
    | cons l L ih =>
      intro st hw
      have h1 := ih (runL st l) (lineA_rng hw _)
      have h2 := lineA_len hw (BA l)
      have h3 : (runL st l).2.length = st.2.length + ((lineA st.1 (BA l)).2.length + 1) := by
        show (st.2 ++ ((lineA st.1 (BA l)).2 ++ [10])).length = _
        simp
      rw [List.foldl_cons, List.length_cons]
      omega
  have h1 := key (partsAt 10 s.data.toList []) (0, []) ⟨by decide, by decide⟩
  rw [← execR_parts, partsAt_len] at h1
  have h2 := List.count_le_length (a := (10 : UInt8)) (l := s.data.toList)
  rw [len_list] at h2
  have h3 := execR_rng s
  have h4 := decN_len 7 (execR s).1.toNat (by have := h3.1; have := h3.2; omega)
  unfold outL lastW
  simp only [List.length_append, List.length_cons, List.length_nil] at *
  simp [wWord]
  omega
/-! ### The last line of what a script says -/
theorem lastW_form (n : Int) : ∃ b, lastW n = b ++ [10] ∧ ∀ x ∈ b, x ≠ 10 := by
  refine ⟨wWord ++ decN n.toNat, by simp [lastW], fun x hx e => ?_⟩
  rcases List.mem_append.1 hx with h | h
  · subst e
    revert h
    decide
  · have := decN_byte _ x h
    rw [e] at this
    simp at this
theorem endIx_app (A b : List UInt8) (hA : EndsAt 10 A) (hb : ∀ x ∈ b, x ≠ 10) (c : List UInt8) : ∀ k, k ≤ b.length → endIx (BA (A ++ (b ++ c))) (A.length + k) = A.length := by
  have hsz : (BA (A ++ (b ++ c))).size = A.length + (b.length + c.length) := by show (A ++ (b ++ c)).length = _; simp
  intro k
  induction k with
  | zero =>
    intro _
    rw [Nat.add_zero]
    rcases hA with rfl | ⟨d, rfl⟩
    · rfl
    · rw [show (d ++ [(10 : UInt8)]).length = d.length + 1 from by simp]
      refine endIx_here ?_
      rw [bt_at _ _ (by rw [hsz, List.length_append, List.length_cons, List.length_nil]; omega)]
      have : (BA (d ++ [10] ++ (b ++ c))).data.toList[d.length]'(by show d.length < (d ++ [10] ++ (b ++ c)).length; rw [List.length_append, List.length_append, List.length_cons, List.length_nil]; omega) = 10 := by
        show (d ++ [10] ++ (b ++ c))[d.length]'_ = 10
        rw [List.getElem_append_left (by simp), List.getElem_append_right (by omega)]
        simp
      rw [this]
      rfl
  | succ k ih =>
    intro hk
    rw [show A.length + (k + 1) = (A.length + k) + 1 by omega, endIx_on, ih (by omega)]
    intro h
    rw [bt_at _ _ (by rw [hsz]; omega)] at h
    have h2 : (BA (A ++ (b ++ c))).data.toList[A.length + k]'(by show A.length + k < (A ++ (b ++ c)).length; simp; omega) = b[k] := by
      show (A ++ (b ++ c))[A.length + k]'_ = b[k]
      rw [List.getElem_append_right (by omega)]
      simp only [Nat.add_sub_cancel_left]
      rw [List.getElem_append_left (by omega)]
    rw [h2] at h
    exact hb _ (List.getElem_mem (by omega : k < b.length)) ((byte_eq _ 10).1 (by rw [h]; rfl))
theorem lastS_out {A : List UInt8} (hA : EndsAt 10 A) (n : Int) : lastS (BA (A ++ lastW n)) = BA (lastW n) := by
  obtain ⟨b, hb, hx⟩ := lastW_form n
  rw [hb]
  unfold lastS
  have hsz : (BA (A ++ (b ++ [10]))).size = A.length + (b.length + 1) := by show (A ++ (b ++ [10])).length = _; simp
  rw [hsz, show A.length + (b.length + 1) - 1 = A.length + b.length by omega, endIx_app A b hA hx [10] b.length (Nat.le_refl _)]
  have h := ext_list (BA (A ++ (b ++ [10]))) A.length (A.length + (b.length + 1))
  have h2 : ((BA (A ++ (b ++ [10]))).extract A.length (A.length + (b.length + 1))) = BA (((BA (A ++ (b ++ [10]))).extract A.length (A.length + (b.length + 1))).data.toList) := rfl
  rw [h2, h]
  show BA (((A ++ (b ++ [10])).drop A.length).take _) = _
  rw [List.drop_left, List.take_of_length_le (by simp)]
theorem lastS_exec (s : ByteArray) : lastS (BA (outL (execR s))) = BA (lastW (execR s).1) := lastS_out (exec_ends s) _
theorem take_out (r : Int × List UInt8) : (BA (outL r)).extract 0 r.2.length = BA r.2 := by
  have h := ext_list (BA (outL r)) 0 r.2.length
  have h2 : (BA (outL r)).extract 0 r.2.length = BA (((BA (outL r)).extract 0 r.2.length).data.toList) := rfl
  rw [h2, h, List.drop_zero, Nat.sub_zero]
  show BA ((r.2 ++ lastW r.1).take r.2.length) = _
  rw [List.take_left']
  rfl

/-! ### Lines by their bytes -/
theorem line_zzz (n : Int) : lineA n (BA [122, 122, 122]) = (n, aWhat) := by
  rw [lineA_bare (by kernel_rfl) (by decide)]
  rw [bareA_eq]
  rfl
theorem line_setx (n : Int) : lineA n (BA [115, 101, 116, 32, 120]) = (n, aNo) := by
  have hsp : spAt (BA [115, 101, 116, 32, 120]) = 3 := by kernel_rfl
  rw [lineA_rest (c := (-1, true, false)) (by rw [hsp]; decide) (by
    rw [hsp, changeA_eq]
    have h1 : ((BA [115, 101, 116, 32, 120]).extract 0 3).data.toList = wSet := by kernel_rfl
    have h2 : (BA [115, 101, 116, 32, 120]).extract (3 + 1) (BA [115, 101, 116, 32, 120]).size = BA [120] := by kernel_rfl
    rw [h1, h2]
    have h3 : oneA (BA [120]) = -1 := by
      unfold oneA
      rw [numS_bad (s := BA [120]) 0 (by decide) (by kernel_rfl)]
      rfl
    rw [h3]
    rfl)]
  rfl
theorem line_show (n : Int) : lineA n (BA wShow) = (n, chrs n 27) := by
  rw [lineA_bare (by kernel_rfl) (by decide)]
  rfl
theorem exec_what (r : Int × List UInt8) : (partsAt 10 [122, 122, 122, 10, 115, 101, 116, 32, 120, 10] []).foldl runL r = (r.1, r.2 ++ [119, 104, 97, 116, 10, 110, 111, 10]) := by
  rw [show partsAt 10 [122, 122, 122, 10, 115, 101, 116, 32, 120, 10] [] = [[122, 122, 122], [115, 101, 116, 32, 120]] by decide]
  show runL (runL r [122, 122, 122]) [115, 101, 116, 32, 120] = _
  unfold runL
  rw [line_zzz, line_setx]
  simp [aWhat, aNo]
theorem exec_show (r : Int × List UInt8) : (partsAt 10 [115, 104, 111, 119, 10] []).foldl runL r = (r.1, r.2 ++ (chrs r.1 27 ++ [10])) := by
  rw [show partsAt 10 [115, 104, 111, 119, 10] [] = [wShow] by decide]
  show runL r wShow = _
  unfold runL
  rw [line_show]
theorem exec_show2 (r : Int × List UInt8) : (partsAt 10 [115, 104, 111, 119, 10, 115, 104, 111, 119, 10] []).foldl runL r = (r.1, r.2 ++ ((chrs r.1 27 ++ [10]) ++ (chrs r.1 27 ++ [10]))) := by
  rw [show partsAt 10 [115, 104, 111, 119, 10, 115, 104, 111, 119, 10] [] = [wShow, wShow] by decide]
  show runL (runL r wShow) wShow = _
  unfold runL
  rw [line_show, line_show]
  simp
end Go.Proofs.YtcfhfllcdliaoaaGreatDoor
