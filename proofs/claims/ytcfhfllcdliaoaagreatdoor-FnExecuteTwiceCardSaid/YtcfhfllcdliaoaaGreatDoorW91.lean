/- The walk of promise 79. -/
import Derived.Test.YtcfhfllcdliaoaaGreatDoorC214
import Derived.Test.YtcfhfllcdliaoaaGreatDoorC213
import Derived.Test.YtcfhfllcdliaoaaGreatDoorHC
namespace Go.Proofs.YtcfhfllcdliaoaaGreatDoor
open Go.RowKit
set_option linter.unusedVariables false
set_option linter.unusedSimpArgs false
attribute [local irreducible] octS cN octF syn nearL farI

theorem out_ne (r : Int × List UInt8) : outL r ≠ [] := fun e => by
  have := congrArg List.length e
  unfold outL lastW at this
  simp [wWord] at this
set_option maxHeartbeats 4000000 in
theorem walk_FnExecuteNone (a0 : Option Addr) (len0 cap0 : Nat) (z0 : List Int) (w : World) (w0 : IsRow .u8 w a0 len0 cap0 z0) (hT : TabX w) :
    Calls Tryz.prog 3 #[.slice a0 len0 cap0] w fun e w' => e = .returned (.bool true) ∧ Below w.heap.size w w' := by
  obtain ⟨bs, rfl, hr, hc, hm, hv⟩ := w0.bytes
  have hm' := hm
  unfold maxLen at hm'
  by_cases hbig : 1048576 < bs.length
  · go_enter Tryz.func3, Tryz.ntmps3
    go_wp2_with fail
    go_ret
    exact ⟨rfl, Below.refl _ _⟩
  · have hbig' : bs.length ≤ 1048576 := by omega
    have HT := Lib.hid hT
    have HD := Lib.hid (DrawExecute_calls _ _ bs _ hr hc hm hv)
    clear hbig hr hc hm hv hm' w0 hT
    go_enter Tryz.func3, Tryz.ntmps3
    go_wp2_with fail
    refine HD.out.mono ?_
    rintro e w1 ⟨s, rfl, hs, b1⟩
    have hsm : s.size ≤ maxLen := by unfold maxLen; omega
    have T1 := Lib.hid (HT.out.keep b1)
    have B1 := Lib.hid b1
    have HI := Lib.hid (iExecute_calls s w1 hsm T1.out)
    have HS := Lib.hid (fun W => sExecute_calls s W hsm)
    clear b1 HD hsm
    by_cases h600 : 600 < s.size
    · have h1 : (600 : Int) < (s.size : Int) := by omega
      rw [execA_long h600, show BA aLong = ⟨#[116, 111, 111, 32, 108, 111, 110, 103, 10]⟩ from rfl] at HI HS
      clear h600
      go_wp2_with fail
      refine HI.out.mono ?_
      rintro e w2 ⟨rfl, b⟩
      have B2 := Lib.hid (B1.out.trans (b.mono B1.out.size))
      have T2 := Lib.hid (T1.out.keep b)
      clear b
      go_wp2_with fail
      refine (HS.out _).mono ?_
      rintro e w3 ⟨rfl, b⟩
      have B3 := Lib.hid (B2.out.trans (b.mono B2.out.size))
      have T3 := Lib.hid (T2.out.keep b)
      clear b
      go_wp2_with fail
      go_ret
      exact ⟨rfl, B3.out⟩
    · have h1 : ¬ (600 : Int) < (s.size : Int) := by omega
      have h6 : s.size ≤ 600 := by omega
      have HC := Lib.hid (fun W => complete_calls s W (by omega))
      have hcs := compS_size s
      have HX := Lib.hid (fun W h => iExecute_calls (compS s) W (by unfold maxLen; omega) h)
      have HN := Lib.hid (fun W h => iExecute_calls ⟨#[]⟩ W (by decide) h)
      rw [execA_none] at HN
      rw [execA_out (by omega), compS_exec, ← execA_out h6] at HX
      have e1 : ((execA s).toList == ([] : List UInt8)) = false := by
        rw [execA_out h6]
        exact ba_no (out_ne _)
      have f1 : ¬ (execA s).toList = ([] : List UInt8) := by
        rw [execA_out h6]
        exact ba_ne (out_ne _)
      clear h600 hcs hs h6
      generalize compS s = c at *
      generalize execA s = R at *
      go_wp2_with fail
      refine HI.out.mono ?_
      rintro e w2 ⟨rfl, b⟩
      have B2 := Lib.hid (B1.out.trans (b.mono B1.out.size))
      have T2 := Lib.hid (T1.out.keep b)
      clear b
      go_wp2_with fail
      refine (HS.out _).mono ?_
      rintro e w3 ⟨rfl, b⟩
      have B3 := Lib.hid (B2.out.trans (b.mono B2.out.size))
      have T3 := Lib.hid (T2.out.keep b)
      clear b
      go_wp2_with fail
      refine (HN.out _ T3.out).mono ?_
      rintro e w4 ⟨rfl, b⟩
      have B4 := Lib.hid (B3.out.trans (b.mono B3.out.size))
      have T4 := Lib.hid (T3.out.keep b)
      clear b
      go_wp2_with fail
      refine (HC.out _).mono ?_
      rintro e w' ⟨rfl, rfl⟩
      go_wp2_with fail
      refine (HX.out _ T4.out).mono ?_
      rintro e w5 ⟨rfl, b⟩
      have B5 := Lib.hid (B4.out.trans (b.mono B4.out.size))
      have T5 := Lib.hid (T4.out.keep b)
      clear b
      go_wp2_with fail
      go_ret
      exact ⟨rfl, B5.out⟩
end Go.Proofs.YtcfhfllcdliaoaaGreatDoor
