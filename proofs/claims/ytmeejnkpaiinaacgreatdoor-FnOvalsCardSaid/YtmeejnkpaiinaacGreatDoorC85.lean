/- Sorting words by the library's own text: patterns broken. -/
import Derived.Test.YtmeejnkpaiinaacGreatDoorC84
namespace Go.Proofs.YtmeejnkpaiinaacGreatDoor
open Go.RowKit Go.Sort
set_option linter.unusedVariables false

def BxU (W : World) (sb : Nat) (r : Int) : Prop := W.heap[sb]? = some (.cells #[.int .u64 r] 212 (0, 0))
theorem BxU.cell {W : World} {sb : Nat} {s : Int} (h : BxU W sb s) : W.cell? ⟨sb, 0, none⟩ = some (.int .u64 s) := by
  unfold BxU at h; simp [World.cell?, h]
theorem BxU.free {W : World} {sb : Nat} {s : Int} (h : BxU W sb s) : W.frozen? ⟨sb, 0, none⟩ = false := Lib.frozen_of_heap h 0
theorem BxU.set {W : World} {sb : Nat} {s : Int} (h : BxU W sb s) (s' : Int) : BxU (W.setCell ⟨sb, 0, none⟩ (.int .u64 s')) sb s' := by
  have := heap_setCell_same W sb 0 _ 212 (.int .u64 s') h
  unfold BxU
  rw [this]
  rfl
set_option maxRecDepth 100000 in
set_option maxHeartbeats 1000000 in
theorem wNext (sb : Nat) (r : Int) (w : World) (hs : BxU w sb r) :
    Calls Tryz.prog 204 #[.pointer (some ⟨sb, 0, none⟩)] w fun e w' =>
      ∃ r' : Int, 0 ≤ r' ∧ r' < 18446744073709551616 ∧ e = .returned (.int .u64 r') ∧ BxU w' sb r' ∧ Trn sb w w' := by
  have hc := hs.cell
  have hf := hs.free
  have HS := Lib.hid hs
  clear hs
  go_enter Tryz.func204, Tryz.ntmps204
  go_wp2_with fail
  go_region
  all_goals go_wp2_with fail
  generalize bits BinOp.xor IntKind.u64 r (IntKind.u64.wrap (r * 8192)) = V1
  have H1 := Lib.hid (HS.out.set V1)
  have T1 := Lib.hid ((Trn.refl sb w).set 0 (.int .u64 V1))
  have hc1 := H1.out.cell
  have hf1 := H1.out.free
  clear hc hf HS
  generalize w.setCell ⟨sb, 0, none⟩ (.int .u64 V1) = w1 at *
  go_region
  all_goals go_wp2_with fail
  generalize bits BinOp.xor IntKind.u64 V1 (V1 / 128) = V2
  have H2 := Lib.hid (H1.out.set V2)
  have T2 := Lib.hid (T1.out.set 0 (.int .u64 V2))
  have hc2 := H2.out.cell
  have hf2 := H2.out.free
  clear hc1 hf1 H1
  generalize w1.setCell ⟨sb, 0, none⟩ (.int .u64 V2) = w2 at *
  go_region
  all_goals go_wp2_with fail
  obtain ⟨V3, hV3⟩ : ∃ V, V = bits BinOp.xor IntKind.u64 V2 (IntKind.u64.wrap (V2 * 131072)) := ⟨_, rfl⟩
  have hr3 : 0 ≤ V3 ∧ V3 < 18446744073709551616 := by
    have e : V3 = IntKind.u64.wrap ((BitVec.ofInt 64 V2 ^^^ BitVec.ofInt 64 (IntKind.u64.wrap (V2 * 131072))).toNat : Int) := hV3
    rw [IntKind.wrap_u64] at e
    omega
  rw [← hV3]
  clear hV3
  have H3 := Lib.hid (H2.out.set V3)
  have T3 := Lib.hid (T2.out.set 0 (.int .u64 V3))
  have hc3 := H3.out.cell
  clear hc2 hf2 H2
  generalize w2.setCell ⟨sb, 0, none⟩ (.int .u64 V3) = w3 at *
  go_wp2_with fail
  go_ret
  exact ⟨V3, hr3.1, hr3.2, rfl, H3.out, ⟨T3.out.os, T3.out.tape, T3.out.output, T3.out.size, T3.out.block⟩⟩
theorem BxU.far {W : World} {sb g i j : Nat} {s : Int} {u v : Value} (h : BxU W sb s) (hne : g ≠ sb) : BxU ((W.setCell ⟨g, i, none⟩ u).setCell ⟨g, j, none⟩ v) sb s :=
  (Below.heap_setCell _ ⟨g, j, none⟩ v sb (Ne.symm hne)).trans ((Below.heap_setCell _ ⟨g, i, none⟩ u sb (Ne.symm hne)).trans h)
theorem trn_drew {W W' : World} {g : Nat} (h : Trn g W W') : Trn g W W'.drew := ⟨h.os, h.tape, h.output, h.size, h.block⟩
theorem mask_u64 (x : Int) (M : Nat) (hM : M = 16 ∨ M = 32) (h0 : 0 ≤ x) (h1 : x < 18446744073709551616) : ∃ y : Nat, y < M ∧ bits .and .u64 x ((M : Int) - 1) = (y : Int) := by
  have e : bits .and .u64 x ((M : Int) - 1) = IntKind.u64.wrap ((BitVec.ofInt 64 x &&& BitVec.ofInt 64 ((M : Int) - 1)).toNat : Int) := rfl
  have hm : (BitVec.ofInt 64 ((M : Int) - 1)).toNat = M - 1 := by rcases hM with rfl | rfl <;> decide
  have hle : (BitVec.ofInt 64 x &&& BitVec.ofInt 64 ((M : Int) - 1)).toNat ≤ M - 1 := by rw [BitVec.toNat_and, hm]; exact Nat.and_le_right
  generalize (BitVec.ofInt 64 x &&& BitVec.ofInt 64 ((M : Int) - 1)).toNat = y at *
  refine ⟨y, by omega, ?_⟩
  rw [e, IntKind.wrap_u64]
  omega
set_option maxRecDepth 100000 in
set_option maxHeartbeats 1000000 in
theorem wBreak (g c a b n : Nat) (t : TypeId) (tl : Array Value) (d : Array Int) (w : World) (hd : d.size = n) (hR : RowB w g t tl d) (hab : a + 13 ≤ b) (hab2 : b ≤ a + 21) (hb : b ≤ n) (hn : n ≤ 40) :
    Calls Tryz.prog 213 #[.slice (some ⟨g, 0, none⟩) n c, .int .i64 a, .int .i64 b] w fun e w' =>
      ∃ d', e = .returned (.tuple #[]) ∧ PermIn a b d d' ∧ RowB w' g t tl d' ∧ Trn g w w' := by
  obtain ⟨L, hL⟩ : ∃ L, b = a + L := ⟨b - a, by omega⟩
  obtain ⟨q, hq⟩ : ∃ q, L / 4 = q := ⟨_, rfl⟩
  obtain ⟨M, hM⟩ : ∃ M, (L, M) ∈ [(13, 16), (14, 16), (15, 16), (16, 32), (17, 32), (18, 32), (19, 32), (20, 32), (21, 32)] := by
    rcases (by omega : L = 13 ∨ L = 14 ∨ L = 15 ∨ L = 16 ∨ L = 17 ∨ L = 18 ∨ L = 19 ∨ L = 20 ∨ L = 21) with rfl | rfl | rfl | rfl | rfl | rfl | rfl | rfl | rfl
    · exact ⟨16, by decide⟩
    · exact ⟨16, by decide⟩
    · exact ⟨16, by decide⟩
    all_goals exact ⟨32, by decide⟩
  have hM2 : (M = 16 ∨ M = 32) ∧ M ≤ 2 * L := by
    simp only [List.mem_cons, List.not_mem_nil, or_false, Prod.mk.injEq] at hM
    omega
  have HP2 := Lib.hid (fun W => wPow2 L M W hM)
  have HMK := Lib.hid (fun x h0 h1 => mask_u64 x M hM2.1 h0 h1)
  have HR := Lib.hid hR
  have HD := Lib.hid hd
  have eL : (b : Int) - (a : Int) = (L : Int) := by omega
  have eq4 : (L : Int) / 4 = (q : Int) := by omega
  have l8 : (8 : Int) ≤ (L : Int) := by omega
  have lb : (b : Int) ≤ 40 := by omega
  have la : (a : Int) + (q : Int) * 2 ≤ 40 := by omega
  have lq0 : (3 : Int) ≤ (q : Int) := by omega
  have lM : (1 : Int) ≤ (M : Int) := by omega
  have lM2 : (M : Int) ≤ 32 := by omega
  have hML := hM2.2
  have HLb := Lib.hid hL
  have HQ := Lib.hid hq
  have hwL : IntKind.u64.wrap (L : Int) = (L : Int) := by rw [IntKind.wrap_u64]; omega
  have hgw : g < w.heap.size := hR.lt
  have HB := Lib.hid (show b ≤ n from hb)
  clear hR hd hL hq hM hM2
  go_enter Tryz.func213, Tryz.ntmps213
  go_wp2_with fail
  refine (HP2.out _).mono ?_
  rintro e w' ⟨rfl, rfl⟩
  have hnb : BxU (w.alloc (.cells #[.int .u64 (L : Int)] 212)) w.heap.size L := heap_alloc_new w _
  have hbb : Below w.heap.size w (w.alloc (.cells #[.int .u64 (L : Int)] 212)) := (Below.refl _ w).alloc (Nat.le_refl _) _
  have HBX := Lib.hid hnb
  have HR1 := Lib.hid (HR.out.below hbb)
  have HT1 := Lib.hid (show Trn g w (w.alloc (.cells #[.int .u64 (L : Int)] 212)) from World.grownBy_alloc w _ _)
  clear hnb hbb
  generalize w.alloc (.cells #[.int .u64 (L : Int)] 212) = W1 at *
  go_wp2_with fail
  go_loopw [9] (fun vi wq => ∃ (k : Nat) (r : Int) (dk : Array Int), vi = .int .i64 ((a + q * 2 - 1 + k : Nat) : Int) ∧ k ≤ 3 ∧ 0 ≤ r ∧ r < 18446744073709551616 ∧ Hid (BxU wq w.heap.size r) ∧ Hid (RowB wq g t tl dk) ∧ Hid (Trn g w wq) ∧ Hid (dk.size = n) ∧ Hid (PermIn a b d dk)) (fun vi _ => a + q * 2 + 3 - (intW vi).toNat)
  case atStart => exact ⟨0, L, d, by go_num, by omega, by omega, by omega, HBX, HR1, HT1, HD, Lib.hid (permIn_refl _ _ _)⟩
  case round =>
    obtain ⟨k, r, dk, rfl, hk, hr0, hr1, hbx, hrw, htr, hdk, hpm⟩ := hrel
    obtain ⟨i, hi⟩ : ∃ i, a + q * 2 - 1 + k = i := ⟨_, rfl⟩
    rw [hi]
    by_cases hk3 : k < 3
    · have hle : (i : Int) ≤ (a : Int) + (q : Int) * 2 + 1 := by omega
      have hi0 : (0 : Int) ≤ (i : Int) := by omega
      have hin : (i : Int) < (n : Int) := by have := HLb.out; have := HQ.out; omega
      have HI := Lib.hid (show a ≤ i ∧ i < b ∧ i < n by have := HLb.out; have := HQ.out; omega)
      have HI2 := Lib.hid hi
      clear hi
      go_wp2_with fail
      refine (wNext w.heap.size r _ hbx.out).mono ?_
      rintro e w2 ⟨r', h0', h1', rfl, b2, t2⟩
      have HB2 := Lib.hid b2
      have HRW2 := Lib.hid (hrw.out.trn t2 (by omega))
      have HT2 := Lib.hid (show Trn g w w2 from ⟨t2.os.trans htr.out.os, t2.tape.trans htr.out.tape, t2.output.trans htr.out.output, Nat.le_trans htr.out.size t2.size, fun x hx hxr => (t2.block x (Nat.lt_of_lt_of_le hx htr.out.size) (fun e => by injection e; omega)).trans (htr.out.block x hx hxr)⟩)
      obtain ⟨y, hy, hym⟩ := HMK.out r' h0' h1'
      clear b2 t2 hrw htr hbx
      have hy0 : (0 : Int) ≤ (y : Int) := by omega
      have hyM : (y : Int) < 32 := by omega
      by_cases hyL : y < L
      · have hyLI : ¬ (L : Int) ≤ (y : Int) := by omega
        have hya : (a : Int) + (y : Int) < (n : Int) := by have := HLb.out; omega
        have hco := HRW2.out.cell (i := a + y) (by rw [hdk.out]; have := HLb.out; omega)
        have hci := HRW2.out.cell (i := i) (by rw [hdk.out]; exact HI.out.2.2)
        have hfo := HRW2.out.free (a + y)
        have hfi := HRW2.out.free i
        obtain ⟨xo, hxo⟩ : ∃ x, x = dk[a + y]! := ⟨_, rfl⟩
        obtain ⟨xi, hxi⟩ : ∃ x, x = dk[i]! := ⟨_, rfl⟩
        rw [← hxo] at hco
        rw [← hxi] at hci
        have HXO := Lib.hid hxo
        have HXI := Lib.hid hxi
        clear hxo hxi
        obtain ⟨yy2, hyy2⟩ : ∃ yv, ∀ k, ((w2.drewN k).setCell ⟨g, i, none⟩ (.int .u32 xo)).cell? ⟨g, a + y, none⟩ = some yv := ⟨_, fun k => ((HRW2.out.drewN k).set (i := i) (by rw [hdk.out]; exact HI.out.2.2) xo).cell (i := a + y) (by simp [hdk.out]; have := HLb.out; omega)⟩
        have hyy3 := hyy2 0
        rw [show w2.drewN 0 = w2 from rfl] at hyy3
        go_wp2_with fail
        go_region
        all_goals go_wp2_with fail
        go_roundw
        case rel => exact ⟨k + 1, r', Go.Sort.swp dk i (a + y), by have := HI2.out; go_num, by omega, h0', h1', Lib.hid (BxU.far HB2.out (by omega)), Lib.hid (by rw [HXO.out, HXI.out]; exact HRW2.out.swp (by rw [hdk.out]; exact HI.out.2.2) (by rw [hdk.out]; have := HLb.out; omega)), Lib.hid (trn_drew (HT2.out.swp _ _ _ _)), Lib.hid (by rw [size_swp]; exact hdk.out), Lib.hid (permIn_trans _ _ _ _ _ hpm.out (swp_permIn dk a b i (a + y) HI.out.1 HI.out.2.1 (by omega) (by have := HLb.out; omega) (by rw [hdk.out]; exact HB.out)))⟩
        case measure => first | (simp [intW]; done) | (simp [intW]; have := HI2.out; omega)
      · have hyLI : (L : Int) ≤ (y : Int) := by omega
        obtain ⟨z, hz⟩ : ∃ z, y = L + z := ⟨y - L, by omega⟩
        have hzI : (y : Int) - (L : Int) = (z : Int) := by omega
        have hzL : z < L := by omega
        have hz0 : (0 : Int) ≤ (z : Int) := by omega
        have hzM : (z : Int) < 32 := by omega
        have hya : (a : Int) + (z : Int) < (n : Int) := by have := HLb.out; omega
        clear hz
        have hco := HRW2.out.cell (i := a + z) (by rw [hdk.out]; have := HLb.out; omega)
        have hci := HRW2.out.cell (i := i) (by rw [hdk.out]; exact HI.out.2.2)
        have hfo := HRW2.out.free (a + z)
        have hfi := HRW2.out.free i
        obtain ⟨xo, hxo⟩ : ∃ x, x = dk[a + z]! := ⟨_, rfl⟩
        obtain ⟨xi, hxi⟩ : ∃ x, x = dk[i]! := ⟨_, rfl⟩
        rw [← hxo] at hco
        rw [← hxi] at hci
        have HXO := Lib.hid hxo
        have HXI := Lib.hid hxi
        clear hxo hxi
        obtain ⟨yy2, hyy2⟩ : ∃ yv, ∀ k, ((w2.drewN k).setCell ⟨g, i, none⟩ (.int .u32 xo)).cell? ⟨g, a + z, none⟩ = some yv := ⟨_, fun k => ((HRW2.out.drewN k).set (i := i) (by rw [hdk.out]; exact HI.out.2.2) xo).cell (i := a + z) (by simp [hdk.out]; have := HLb.out; omega)⟩
        have hyy3 := hyy2 0
        rw [show w2.drewN 0 = w2 from rfl] at hyy3
        go_wp2_with fail
        go_region
        all_goals go_wp2_with fail
        go_roundw
        case rel => exact ⟨k + 1, r', Go.Sort.swp dk i (a + z), by have := HI2.out; go_num, by omega, h0', h1', Lib.hid (BxU.far HB2.out (by omega)), Lib.hid (by rw [HXO.out, HXI.out]; exact HRW2.out.swp (by rw [hdk.out]; exact HI.out.2.2) (by rw [hdk.out]; have := HLb.out; omega)), Lib.hid (trn_drew (HT2.out.swp _ _ _ _)), Lib.hid (by rw [size_swp]; exact hdk.out), Lib.hid (permIn_trans _ _ _ _ _ hpm.out (swp_permIn dk a b i (a + z) HI.out.1 HI.out.2.1 (by omega) (by have := HLb.out; omega) (by rw [hdk.out]; exact HB.out)))⟩
        case measure => first | (simp [intW]; done) | (simp [intW]; have := HI2.out; omega)
    · have hgt : ¬ (i : Int) ≤ (a : Int) + (q : Int) * 2 + 1 := by omega
      clear hi
      go_wp2_with fail
      go_end0
      exact ⟨rfl, dk, hpm.out, hrw.out, htr.out⟩
end Go.Proofs.YtmeejnkpaiinaacGreatDoor
