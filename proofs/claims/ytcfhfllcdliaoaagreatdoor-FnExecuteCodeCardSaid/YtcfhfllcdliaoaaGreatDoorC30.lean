/- Iterators over messages and words of the code, of the program. -/
import Derived.Shelf.RegionOpen
import Derived.Test.YtcfhfllcdliaoaaGreatDoorQ6
import Derived.Test.YtcfhfllcdliaoaaGreatDoorC10
import Derived.Test.YtcfhfllcdliaoaaGreatDoorM16
import Derived.Test.YtcfhfllcdliaoaaGreatDoorP2
namespace Go.Proofs.YtcfhfllcdliaoaaGreatDoor
open Go.RowKit Go.Shelf
attribute [local go_sem] Oper.semAt_some
set_option linter.unusedVariables false

/-- What a round leaves: all below n₀, and the blocks from lo to mid. -/
def KpOf (n₀ lo mid : Nat) (W W' : World) : Prop := Below n₀ W W' ∧ KeepsIn lo mid W W'
theorem KpOf.refl (n₀ lo mid : Nat) (W : World) : KpOf n₀ lo mid W W := ⟨Below.refl _ _, KeepsIn.refl _ _ _⟩
theorem KpOf.trans {n₀ lo mid : Nat} {A B C : World} (h : KpOf n₀ lo mid A B) (k : KpOf n₀ lo mid B C) : KpOf n₀ lo mid A C := ⟨h.1.trans k.1, h.2.trans k.2⟩
theorem KpOf.of_below {n₀ lo mid : Nat} {A B : World} (h : Below A.heap.size A B) (h1 : n₀ ≤ A.heap.size) (h2 : mid ≤ A.heap.size) : KpOf n₀ lo mid A B := ⟨h.mono h1, KeepsIn.of_below h h2⟩
theorem KpOf.put {n₀ lo mid : Nat} (W : World) (l : Nat) (o : Obj) (h1 : n₀ ≤ l) (h2 : mid ≤ l) (hl : l < W.heap.size) : KpOf n₀ lo mid W (W.putObj l o) :=
  ⟨(Below.refl n₀ W).grown (grownBy_putObj' W l o) (by omega) (fun k e => by cases e; omega), KeepsIn.putObj W l o (.inr h2)⟩
theorem KpOf.own {β : Type} {n₀ lo mid B : Nat} {w₀ : World} (h1 : n₀ ≤ B) (h2 : mid ≤ B) (h3 : n₀ ≤ w₀.heap.size) (h4 : mid ≤ w₀.heap.size) : OwnFrom B (fun (_ : β) W => KpOf n₀ lo mid w₀ W) :=
  fun s A C row hs hg hr => ⟨hs.1.grown hg (Nat.le_trans h3 hs.1.size) (fun k e => Nat.le_trans h1 (hr k e).1),
    hs.2.trans (KeepsIn.grown hg (Nat.le_trans h4 hs.1.size) (fun g e => .inr (Nat.le_trans h2 (hr g e).1)))⟩
theorem KpOf.cell {n₀ lo mid : Nat} {A B : World} (h : KpOf n₀ lo mid A B) {p : Addr} (h1 : lo ≤ p.block) (h2 : p.block < mid) : B.cell? p = A.cell? p := World.cell?_of_block (h.2.at_ _ h1 h2)
theorem own_grown {β : Type} {B : Nat} {I : β → World → Prop} (h : OwnFrom B I) {s : β} {W W' : World} (hs : I s W) (hg : W.grownBy W' none) : I s W' := h s W W' none hs hg (fun r e => by cases e)
theorem below_grown0 {w w' : World} (h : Below w.heap.size w w') : w.grownBy w' none := ⟨h.os, h.tape, h.output, h.size, fun k hk _ => h.block k hk⟩
theorem own_below {β : Type} {B : Nat} {I : β → World → Prop} (h : OwnFrom B I) {s : β} {W W' : World} (hs : I s W) (hb : Below W.heap.size W W') : I s W' := own_grown h hs (below_grown0 hb)

/-- Whether a round says 'go on', as a bool. -/
theorem round_bool {m : Nat} {P : Program} {l : Nat} {f : FuncId} {tmps : Array Value} {assign body : Code} {w : World} {A B C D : World → Prop}
    (h : RoundIn Fence.wide m P l f tmps assign body w fun e W' => A W' ∧ ((e = .returned (.bool true) ∧ B W' ∧ C W') ∨ (e = .returned (.bool false) ∧ D W'))) :
    RoundIn Fence.wide m P l f tmps assign body w fun e W' => ∃ b : Bool, e = .returned (.bool b) ∧ A W' ∧ (b = true → B W' ∧ C W') ∧ (b = false → D W') := by
  refine h.mono ?_
  rintro e W' ⟨ha, ⟨rfl, hb, hc⟩ | ⟨rfl, hd⟩⟩
  · exact ⟨true, rfl, ha, fun _ => ⟨hb, hc⟩, fun h => absurd h (by decide)⟩
  · exact ⟨false, rfl, ha, fun h => absurd h (by decide), fun _ => hd⟩
theorem ownFrom_at {β : Type} {B g : Nat} (f : β → Obj) (hgB : g < B) : OwnFrom B (fun (s : β) W => W.heap[g]? = some (f s)) :=
  fun s A C row hs hg hr => (hg.block g (Array.getElem?_eq_some_iff.1 hs).1 fun e => by have := (hr g e.symm).1; omega).trans hs
/-- What came ahead of a message, told. -/
def MsgAt (lo hi : Nat) (pre : List (Fin 4096)) (x : Fin 4096) : Prop := pre.length < hi + 1 - lo ∧ (pre ++ [x]).map (fun x => x.val) = List.range' lo (pre.length + 1)
set_option maxRecDepth 100000 in
set_option maxHeartbeats 2000000 in
/-- The messages from lo to hi, one by one. -/
theorem msgs_it (lo hi B1 B2 n₀ lw mid : Nat) (hlo : lo ≤ hi) (hhi : hi < 4096) (w : World) (hB1 : B1 < w.heap.size) (hB2 : B2 < w.heap.size) (hl2 : lw ≤ B2) (hm2 : B2 < mid)
    (hc1 : w.cell? ⟨B1, 0, none⟩ = some (.int .u16 lo)) (hc2 : w.cell? ⟨B2, 0, none⟩ = some (.int .u16 hi)) :
    SeqItG Tryz.prog 153 #[.pointer (some ⟨B1, 0, none⟩), .pointer (some ⟨B2, 0, none⟩)] (fun x : Fin 4096 => #[Value.int .u16 (x.val : Nat)]) 0 (KpOf n₀ lw mid) (fun ys => ys.map (fun x => x.val) = msgs lo hi) (fun _ => True) (MsgAt lo hi) w := by
  intro l J Jx W0 hW hl hJ hJx hY h0
  have hc1' : W0.cell? ⟨B1, 0, none⟩ = some (.int .u16 lo) := (hW.cell (p := ⟨B1, 0, none⟩) hB1).trans hc1
  have hc2' : W0.cell? ⟨B2, 0, none⟩ = some (.int .u16 hi) := (hW.cell (p := ⟨B2, 0, none⟩) hB2).trans hc2
  clear hc1 hc2 hW hB1 hB2
  have HY := Lib.hid hY
  clear hY hJ hJx
  refine (callsIn_wide (n := 6)).1 (callsIn_of_wp Tryz.func153 rfl trivial ?_ rfl)
  simp only [Tryz.ntmps153, List.size_toArray, List.length_cons, List.length_nil, Nat.reduceAdd, Nat.reduceSub, Array.replicate_succ, Array.replicate_zero, List.push_toArray, List.append_toArray, List.nil_append, List.cons_append]
  gi_wp2
  gi_loopw [4] (fun p wr => ∃ (pre : List (Fin 4096)) (q : Nat), p = .int .u16 q ∧ lo ≤ q ∧ q ≤ hi + 1 ∧ Hid (pre.map (fun x => x.val) = List.range' lo (q - lo)) ∧ wr.cell? ⟨B2, 0, none⟩ = some (.int .u16 hi) ∧ W0.heap.size ≤ wr.heap.size ∧ Hid (J pre wr))
    (fun p wr => hi + 1 - (intOf p).toNat)
  case atStart =>
    exact ⟨[], lo, rfl, Nat.le_refl _, by omega, Lib.hid (by simp), hc2', Nat.le_refl _, Lib.hid h0⟩
  case round =>
    obtain ⟨pre, q, rfl, hq0, hq1, hp, hc, hsz, hJs⟩ := hrel
    clear hc1' hc2' h0
    by_cases hlt : q ≤ hi
    · have hlen : pre.length = q - lo := by have := congrArg List.length hp.out; simpa using this
      obtain ⟨fn, tmps, assign, body, hy, hRn⟩ := HY.out pre ⟨q, by omega⟩ wr hJs.out ⟨by omega, by rw [List.map_append, hp.out, hlen, List.range'_concat]; simp; omega⟩ (by omega)
      gi_wp2
      refine (round_any hRn).mono ?_
      rintro e W3 ⟨hk, ⟨rfl, hJ3, hk3⟩ | ⟨rfl, hJx3⟩⟩
      · have hc3 : W3.cell? ⟨B2, 0, none⟩ = some (.int .u16 hi) := (hk3.cell (p := ⟨B2, 0, none⟩) hl2 hm2).trans hc
        have hs3 := hk.size
        have HJ3 := Lib.hid hJ3
        clear hJ3 hk3 hk
        gi_wp2
        go_roundw
        case rel => exact ⟨pre ++ [⟨q, by omega⟩], q + 1, rfl, by omega, by omega, Lib.hid (by rw [List.map_append, hp.out, show q + 1 - lo = (q - lo) + 1 by omega, List.range'_concat]; simp; omega), hc3, by omega, HJ3⟩
        case measure => simp [intOf]; omega
      · gi_wp2
        refine bodyPost_ret (results_none rfl _ _ _) rfl ?_
        exact ⟨⟨_, rfl⟩, .inr ⟨_, trivial, hJx3⟩⟩
    · obtain rfl : q = hi + 1 := by omega
      have hlt' : ¬ ((hi : Int) + 1 ≤ hi) := by omega
      gi_wp2
      go_end0
      exact ⟨⟨_, rfl⟩, .inl ⟨pre, hp.out, hJs.out⟩⟩
set_option maxRecDepth 100000 in
set_option maxHeartbeats 4000000 in
/-- What is made of each element of a list. -/
theorem madeM_it {α : Type} (gin f : Nat) (lbin bound : Array Value) (encin : α → Array Value) (val : α → Value) (arg : α → Value) (hargs : ∀ x, encin x = #[arg x]) (K n₀ lw mid B1 B2 : Nat) (S Sp : List α → Prop) (G : List α → α → Prop) (w0 w : World) (T : World → Prop)
    (hin : SeqItG Tryz.prog gin lbin encin K (KpOf n₀ lw mid) S Sp G w0) (hw0 : Below w0.heap.size w0 w) (eg : ∀ args w, (callFunc gin args).run Tryz.prog w = .ok (.enter gin args) w) (ef : ∀ args w, (callFunc f args).run Tryz.prog w = .ok (.enter f args) w)
    (hT : ∀ A B, T A → KpOf n₀ lw mid A B → T B) (hof : ∀ x W, T W → Calls Tryz.prog f (bound.push (arg x)) W fun e W' => e = .returned (val x) ∧ Below W.heap.size W W')
    (hB1 : B1 < w.heap.size) (hB2 : B2 < w.heap.size) (hl2 : lw ≤ B2) (hm2 : B2 < mid) (hmw : mid ≤ w.heap.size) (hnw : n₀ ≤ w.heap.size)
    (hc1 : w.cell? ⟨B1, 0, none⟩ = some (.func (.func gin) #[] lbin)) (hc2 : w.cell? ⟨B2, 0, none⟩ = some (.func (.func f) bound #[])) (hTw : T w) :
    SeqItG Tryz.prog 152 #[.pointer (some ⟨B1, 0, none⟩), .pointer (some ⟨B2, 0, none⟩)] (fun x : α => #[val x]) (K + 3) (KpOf n₀ lw mid) S Sp G w := by
  intro l J Jx W0 hW hl hJ hJx hY h0
  have hc1' : W0.cell? ⟨B1, 0, none⟩ = some (.func (.func gin) #[] lbin) := (hW.cell (p := ⟨B1, 0, none⟩) hB1).trans hc1
  have hc2' : W0.cell? ⟨B2, 0, none⟩ = some (.func (.func f) bound #[]) := (hW.cell (p := ⟨B2, 0, none⟩) hB2).trans hc2
  have hs0 := hW.size
  have hT0 : T W0 := hT _ _ hTw (KpOf.of_below hW hnw hmw)
  have hB0 := hw0.trans (hW.mono hw0.size)
  have hb1 : B1 < W0.heap.size := by omega
  have hb2 : B2 < W0.heap.size := by omega
  have HY := Lib.hid hY
  have HIN := Lib.hid hin
  have HOF := Lib.hid hof
  have HTT := Lib.hid hT
  have HT0 := Lib.hid hT0
  have HB0 := Lib.hid hB0
  have HJ := Lib.hid hJ
  have HJx := Lib.hid hJx
  have H0 := Lib.hid h0
  clear hc1 hc2 hTw hY hin hof hT hT0 hB0 hJ hJx h0 hW hw0 hB1 hB2
  refine (callsIn_wide (n := 6)).1 (callsIn_of_wp_marks Tryz.func152 rfl trivial ?_ rfl)
  simp only [Tryz.ntmps152, List.size_toArray, List.length_cons, List.length_nil, Nat.reduceAdd, Nat.reduceSub, Array.replicate_succ, Array.replicate_zero, List.push_toArray, List.append_toArray, List.nil_append, List.cons_append]
  gi_wp2
  have hb2m : B2 < W0.heap.size := hb2
  have hsB : (W0.alloc (.cells #[.func (.yield l) #[] #[]] 123)).heap.size = W0.heap.size + 1 := by simp
  have hBA : Below W0.heap.size W0 (W0.alloc (.cells #[.func (.yield l) #[] #[]] 123)) := (Below.refl _ W0).alloc (Nat.le_refl _) _
  refine wp_range_it (gf := gin) (lb := lbin) rfl eg HIN.out (fun h k => KpOf.trans h k) (fun V j o hj hjl => KpOf.put V j o (by rw [hsB] at hj; omega) (by rw [hsB] at hj; omega) hjl)
    (HB0.out.trans (hBA.mono HB0.out.size)) (fun x => by rw [hargs x]; rfl)
    (fun pre V => (J pre V ∧ V.heap[W0.heap.size]? = some (.cells #[.func (.yield l) #[] #[]] 123 (0, 0))) ∧ KpOf n₀ lw mid W0 V)
    (fun c pre V => Jx pre V ∧ c = .ret)
    (((own_ge HJ.out (by rw [hsB]; omega)).and (ownFrom_at (fun _ => .cells #[.func (.yield l) #[] #[]] 123 (0, 0)) (by rw [hsB]; omega))).and (KpOf.own (by rw [hsB]; omega) (by rw [hsB]; omega) (by omega) (by omega)))
    (fun c => (own_ge HJx.out (by rw [hsB]; omega)).and (ownFrom_pure _ (fun _ => c = .ret)))
    ⟨⟨HJ.out.alloc _ H0.out, World.alloc_heap_new _ _⟩, KpOf.of_below hBA (by omega) (by omega)⟩
    (fun x => { tmps := #[.func (.yield l) #[] #[], .pointer (some ⟨B1, 0, none⟩), .pointer (some ⟨B2, 0, none⟩), .pointer (some ⟨W0.heap.size, 0, none⟩), arg x, .func (.func gin) #[] lbin, arg x, undef, undef, undef, undef, undef, undef], defers := [] }) ?assign ?body ?done ?stop
  case assign =>
    intro l' x V K' hK
    rw [hargs x]
    gi_wp2
    exact hK
  case body =>
    rintro l' pre x V ⟨⟨hj, hy0⟩, hkp⟩ hlen hsz
    rw [hsB] at hsz
    have hmx : Tryz.prog.follows .mixedOrders = true := by kernel_rfl
    have hd : 1 ≤ 6 - 1 - 1 := by omega
    have hcb : V.cell? ⟨W0.heap.size, 0, none⟩ = some (.func (.yield l) #[] #[]) := (Boxed.cell (t := 123) hy0)
    have hcf : V.cell? ⟨B2, 0, none⟩ = some (.func (.func f) bound #[]) := (hkp.cell (p := ⟨B2, 0, none⟩) hl2 hm2).trans hc2'
    have hsv : W0.heap.size + 1 ≤ V.heap.size := by omega
    have hB2V : B2 < V.heap.size := by omega
    have hTV := Lib.hid (HTT.out _ _ HT0.out hkp)
    have HJV := Lib.hid hj
    have HY0 := Lib.hid hy0
    have HKP := Lib.hid hkp
    clear hj hy0 hkp hBA
    gi_wp2
    have HTD := Lib.hid (HTT.out _ _ hTV.out (KpOf.of_below ((Below.refl V.heap.size V).drew) (by omega) (by omega)))
    have HCB := Lib.hid hcb
    have hnV : n₀ ≤ V.heap.size := by omega
    have hmV : mid ≤ V.heap.size := by omega
    have hlV : W0.heap.size < V.heap.size := by omega
    have HSTEP := Lib.hid (show CallsIn (Fence.wide.inRound l') (6 - 1) Tryz.prog f (bound.push (arg x)) V.drew (fun e V1 => e = .returned (val x) ∧ Hid (Below V.heap.size V V1) ∧ V1.cell? ⟨W0.heap.size, 0, none⟩ = some (.func (.yield l) #[] #[]) ∧ V.heap.size ≤ V1.heap.size ∧
        ∃ fn tmps assign body, (Instr.yield l #[val x]).run Tryz.prog V1 = .ok (.round l fn tmps assign body) V1 ∧ Hid (RoundIn Fence.wide 0 Tryz.prog l fn tmps assign body V1 fun e W' => ∃ b : Bool, e = .returned (.bool b) ∧ KeepsIn W0.heap.size (W0.heap.size + (K + 3)) V1 W' ∧ (b = true → J (pre ++ [x]) W' ∧ KpOf n₀ lw mid V1 W') ∧ (b = false → Jx (pre ++ [x]) W'))) by
      refine (CallsIn.inRound l' (callsIn_wide.2 (HOF.out x _ HTD.out))).mono ?_
      rintro e V1 ⟨rfl, hb1⟩
      have hbD : Below V.heap.size V V1 := ((Below.refl V.heap.size V).drew).trans hb1
      obtain ⟨fn, tmps, assign, body, hy, hR⟩ := HY.out pre x V1 (own_below HJ.out HJV.out hbD) hlen (by have := hbD.size; omega)
      exact ⟨rfl, Lib.hid hbD, (hbD.cell (p := ⟨W0.heap.size, 0, none⟩) (by show W0.heap.size < V.heap.size; omega)).trans HCB.out, hbD.size, fn, tmps, assign, body, hy, Lib.hid (round_bool hR)⟩)
    gi_region_with_o (first
      | (refine ⟨trivial, ?_⟩; refine HSTEP.out.mono ?_; rintro e V1 ⟨rfl, hbd, hcb1, hs1, fn, tmps, assign, body, hy, hR⟩)
      | (refine (round_in _ l' hR.out).mono ?_; rintro e V2 ⟨b, rfl, hk, hT, hF⟩; have HK := Lib.hid hk; have HTR := Lib.hid hT; have HFA := Lib.hid hF; clear hk hT hF))
    all_goals
      have hkv : KeepsIn (W0.heap.size + 1) (W0.heap.size + 1 + 2 + K) V V2 :=
        (KeepsIn.of_below hbd.out hsz).trans (HK.out.mono (by omega) (by omega))
      have hkp1 : KpOf n₀ lw mid V V1 := KpOf.of_below hbd.out hnV hmV
      have hyb : V2.heap[W0.heap.size]? = some (.cells #[.func (.yield l) #[] #[]] 123 (0, 0)) := (HK.out.at_ _ (Nat.le_refl _) (by omega)).trans ((hbd.out.block _ hlV).trans HY0.out)
      have HKV := Lib.hid hkv
      have HKP1 := Lib.hid hkp1
      have HYB := Lib.hid hyb
      clear hkv hkp1 hyb
      cases b
      · gi_wp2
        exact ⟨HKV.out, HFA.out (by first | trivial | rfl), rfl⟩
      · gi_wp2
        exact ⟨HKV.out, HKP1.out.trans (HTR.out (by first | trivial | rfl)).2, ⟨(HTR.out (by first | trivial | rfl)).1, HYB.out⟩, (HKP.out.trans HKP1.out).trans (HTR.out (by first | trivial | rfl)).2⟩
  case done =>
    rintro D ys V hD hS ⟨⟨hj, hy0⟩, hkp⟩ hK
    have HS := Lib.hid hS
    have HJV := Lib.hid hj
    clear hS hj hy0 hkp hBA
    rw [hsB] at hD
    gi_wp2
    refine ⟨by simp, .inl ⟨_, _, rfl, run_takeDeferred hK, ?_⟩⟩
    exact ⟨_, results_none rfl _ _ _, ⟨_, rfl⟩, .inl ⟨ys, HS.out, HJ.out.putObj _ HJV.out (by omega) hK rfl⟩⟩
  case stop =>
    rintro D c pre V hD hS ⟨hj, rfl⟩ hK
    have HS := Lib.hid hS
    have HJV := Lib.hid hj
    clear hS hj hBA
    rw [hsB] at hD
    gi_wp2
    refine ⟨by simp, .inl ⟨_, _, rfl, run_takeDeferred hK, ?_⟩⟩
    exact ⟨_, results_none rfl _ _ _, ⟨_, rfl⟩, .inr ⟨pre, HS.out, HJx.out.putObj _ HJV.out (by omega) hK rfl⟩⟩
set_option maxRecDepth 100000 in
set_option maxHeartbeats 4000000 in
/-- What is made of each element of a list. -/
theorem madeW_it {α : Type} (gin f : Nat) (lbin bound : Array Value) (encin : α → Array Value) (val : α → Value) (arg : α → Value) (hargs : ∀ x, encin x = #[arg x]) (K n₀ lw mid B1 B2 : Nat) (S Sp : List α → Prop) (G : List α → α → Prop) (w0 w : World) (T : World → Prop)
    (hin : SeqItG Tryz.prog gin lbin encin K (KpOf n₀ lw mid) S Sp G w0) (hw0 : Below w0.heap.size w0 w) (eg : ∀ args w, (callFunc gin args).run Tryz.prog w = .ok (.enter gin args) w) (ef : ∀ args w, (callFunc f args).run Tryz.prog w = .ok (.enter f args) w)
    (hT : ∀ A B, T A → KpOf n₀ lw mid A B → T B) (hof : ∀ x W, T W → Calls Tryz.prog f (bound.push (arg x)) W fun e W' => e = .returned (val x) ∧ Below W.heap.size W W')
    (hB1 : B1 < w.heap.size) (hB2 : B2 < w.heap.size) (hl2 : lw ≤ B2) (hm2 : B2 < mid) (hmw : mid ≤ w.heap.size) (hnw : n₀ ≤ w.heap.size)
    (hc1 : w.cell? ⟨B1, 0, none⟩ = some (.func (.func gin) #[] lbin)) (hc2 : w.cell? ⟨B2, 0, none⟩ = some (.func (.func f) bound #[])) (hTw : T w) :
    SeqItG Tryz.prog 110 #[.pointer (some ⟨B1, 0, none⟩), .pointer (some ⟨B2, 0, none⟩)] (fun x : α => #[val x]) (K + 3) (KpOf n₀ lw mid) S Sp G w := by
  intro l J Jx W0 hW hl hJ hJx hY h0
  have hc1' : W0.cell? ⟨B1, 0, none⟩ = some (.func (.func gin) #[] lbin) := (hW.cell (p := ⟨B1, 0, none⟩) hB1).trans hc1
  have hc2' : W0.cell? ⟨B2, 0, none⟩ = some (.func (.func f) bound #[]) := (hW.cell (p := ⟨B2, 0, none⟩) hB2).trans hc2
  have hs0 := hW.size
  have hT0 : T W0 := hT _ _ hTw (KpOf.of_below hW hnw hmw)
  have hB0 := hw0.trans (hW.mono hw0.size)
  have hb1 : B1 < W0.heap.size := by omega
  have hb2 : B2 < W0.heap.size := by omega
  have HY := Lib.hid hY
  have HIN := Lib.hid hin
  have HOF := Lib.hid hof
  have HTT := Lib.hid hT
  have HT0 := Lib.hid hT0
  have HB0 := Lib.hid hB0
  have HJ := Lib.hid hJ
  have HJx := Lib.hid hJx
  have H0 := Lib.hid h0
  clear hc1 hc2 hTw hY hin hof hT hT0 hB0 hJ hJx h0 hW hw0 hB1 hB2
  refine (callsIn_wide (n := 6)).1 (callsIn_of_wp_marks Tryz.func110 rfl trivial ?_ rfl)
  simp only [Tryz.ntmps110, List.size_toArray, List.length_cons, List.length_nil, Nat.reduceAdd, Nat.reduceSub, Array.replicate_succ, Array.replicate_zero, List.push_toArray, List.append_toArray, List.nil_append, List.cons_append]
  gi_wp2
  have hb2m : B2 < W0.heap.size := hb2
  have hsB : (W0.alloc (.cells #[.func (.yield l) #[] #[]] 123)).heap.size = W0.heap.size + 1 := by simp
  have hBA : Below W0.heap.size W0 (W0.alloc (.cells #[.func (.yield l) #[] #[]] 123)) := (Below.refl _ W0).alloc (Nat.le_refl _) _
  refine wp_range_it (gf := gin) (lb := lbin) rfl eg HIN.out (fun h k => KpOf.trans h k) (fun V j o hj hjl => KpOf.put V j o (by rw [hsB] at hj; omega) (by rw [hsB] at hj; omega) hjl)
    (HB0.out.trans (hBA.mono HB0.out.size)) (fun x => by rw [hargs x]; rfl)
    (fun pre V => (J pre V ∧ V.heap[W0.heap.size]? = some (.cells #[.func (.yield l) #[] #[]] 123 (0, 0))) ∧ KpOf n₀ lw mid W0 V)
    (fun c pre V => Jx pre V ∧ c = .ret)
    (((own_ge HJ.out (by rw [hsB]; omega)).and (ownFrom_at (fun _ => .cells #[.func (.yield l) #[] #[]] 123 (0, 0)) (by rw [hsB]; omega))).and (KpOf.own (by rw [hsB]; omega) (by rw [hsB]; omega) (by omega) (by omega)))
    (fun c => (own_ge HJx.out (by rw [hsB]; omega)).and (ownFrom_pure _ (fun _ => c = .ret)))
    ⟨⟨HJ.out.alloc _ H0.out, World.alloc_heap_new _ _⟩, KpOf.of_below hBA (by omega) (by omega)⟩
    (fun x => { tmps := #[.func (.yield l) #[] #[], .pointer (some ⟨B1, 0, none⟩), .pointer (some ⟨B2, 0, none⟩), .pointer (some ⟨W0.heap.size, 0, none⟩), arg x, .func (.func gin) #[] lbin, arg x, undef, undef, undef, undef, undef, undef], defers := [] }) ?assign ?body ?done ?stop
  case assign =>
    intro l' x V K' hK
    rw [hargs x]
    gi_wp2
    exact hK
  case body =>
    rintro l' pre x V ⟨⟨hj, hy0⟩, hkp⟩ hlen hsz
    rw [hsB] at hsz
    have hmx : Tryz.prog.follows .mixedOrders = true := by kernel_rfl
    have hd : 1 ≤ 6 - 1 - 1 := by omega
    have hcb : V.cell? ⟨W0.heap.size, 0, none⟩ = some (.func (.yield l) #[] #[]) := (Boxed.cell (t := 123) hy0)
    have hcf : V.cell? ⟨B2, 0, none⟩ = some (.func (.func f) bound #[]) := (hkp.cell (p := ⟨B2, 0, none⟩) hl2 hm2).trans hc2'
    have hsv : W0.heap.size + 1 ≤ V.heap.size := by omega
    have hB2V : B2 < V.heap.size := by omega
    have hTV := Lib.hid (HTT.out _ _ HT0.out hkp)
    have HJV := Lib.hid hj
    have HY0 := Lib.hid hy0
    have HKP := Lib.hid hkp
    clear hj hy0 hkp hBA
    gi_wp2
    have HTD := Lib.hid (HTT.out _ _ hTV.out (KpOf.of_below ((Below.refl V.heap.size V).drew) (by omega) (by omega)))
    have HCB := Lib.hid hcb
    have hnV : n₀ ≤ V.heap.size := by omega
    have hmV : mid ≤ V.heap.size := by omega
    have hlV : W0.heap.size < V.heap.size := by omega
    have HSTEP := Lib.hid (show CallsIn (Fence.wide.inRound l') (6 - 1) Tryz.prog f (bound.push (arg x)) V.drew (fun e V1 => e = .returned (val x) ∧ Hid (Below V.heap.size V V1) ∧ V1.cell? ⟨W0.heap.size, 0, none⟩ = some (.func (.yield l) #[] #[]) ∧ V.heap.size ≤ V1.heap.size ∧
        ∃ fn tmps assign body, (Instr.yield l #[val x]).run Tryz.prog V1 = .ok (.round l fn tmps assign body) V1 ∧ Hid (RoundIn Fence.wide 0 Tryz.prog l fn tmps assign body V1 fun e W' => ∃ b : Bool, e = .returned (.bool b) ∧ KeepsIn W0.heap.size (W0.heap.size + (K + 3)) V1 W' ∧ (b = true → J (pre ++ [x]) W' ∧ KpOf n₀ lw mid V1 W') ∧ (b = false → Jx (pre ++ [x]) W'))) by
      refine (CallsIn.inRound l' (callsIn_wide.2 (HOF.out x _ HTD.out))).mono ?_
      rintro e V1 ⟨rfl, hb1⟩
      have hbD : Below V.heap.size V V1 := ((Below.refl V.heap.size V).drew).trans hb1
      obtain ⟨fn, tmps, assign, body, hy, hR⟩ := HY.out pre x V1 (own_below HJ.out HJV.out hbD) hlen (by have := hbD.size; omega)
      exact ⟨rfl, Lib.hid hbD, (hbD.cell (p := ⟨W0.heap.size, 0, none⟩) (by show W0.heap.size < V.heap.size; omega)).trans HCB.out, hbD.size, fn, tmps, assign, body, hy, Lib.hid (round_bool hR)⟩)
    gi_region_with_o (first
      | (refine ⟨trivial, ?_⟩; refine HSTEP.out.mono ?_; rintro e V1 ⟨rfl, hbd, hcb1, hs1, fn, tmps, assign, body, hy, hR⟩)
      | (refine (round_in _ l' hR.out).mono ?_; rintro e V2 ⟨b, rfl, hk, hT, hF⟩; have HK := Lib.hid hk; have HTR := Lib.hid hT; have HFA := Lib.hid hF; clear hk hT hF))
    all_goals
      have hkv : KeepsIn (W0.heap.size + 1) (W0.heap.size + 1 + 2 + K) V V2 :=
        (KeepsIn.of_below hbd.out hsz).trans (HK.out.mono (by omega) (by omega))
      have hkp1 : KpOf n₀ lw mid V V1 := KpOf.of_below hbd.out hnV hmV
      have hyb : V2.heap[W0.heap.size]? = some (.cells #[.func (.yield l) #[] #[]] 123 (0, 0)) := (HK.out.at_ _ (Nat.le_refl _) (by omega)).trans ((hbd.out.block _ hlV).trans HY0.out)
      have HKV := Lib.hid hkv
      have HKP1 := Lib.hid hkp1
      have HYB := Lib.hid hyb
      clear hkv hkp1 hyb
      cases b
      · gi_wp2
        exact ⟨HKV.out, HFA.out (by first | trivial | rfl), rfl⟩
      · gi_wp2
        exact ⟨HKV.out, HKP1.out.trans (HTR.out (by first | trivial | rfl)).2, ⟨(HTR.out (by first | trivial | rfl)).1, HYB.out⟩, (HKP.out.trans HKP1.out).trans (HTR.out (by first | trivial | rfl)).2⟩
  case done =>
    rintro D ys V hD hS ⟨⟨hj, hy0⟩, hkp⟩ hK
    have HS := Lib.hid hS
    have HJV := Lib.hid hj
    clear hS hj hy0 hkp hBA
    rw [hsB] at hD
    gi_wp2
    refine ⟨by simp, .inl ⟨_, _, rfl, run_takeDeferred hK, ?_⟩⟩
    exact ⟨_, results_none rfl _ _ _, ⟨_, rfl⟩, .inl ⟨ys, HS.out, HJ.out.putObj _ HJV.out (by omega) hK rfl⟩⟩
  case stop =>
    rintro D c pre V hD hS ⟨hj, rfl⟩ hK
    have HS := Lib.hid hS
    have HJV := Lib.hid hj
    clear hS hj hBA
    rw [hsB] at hD
    gi_wp2
    refine ⟨by simp, .inl ⟨_, _, rfl, run_takeDeferred hK, ?_⟩⟩
    exact ⟨_, results_none rfl _ _ _, ⟨_, rfl⟩, .inr ⟨pre, HS.out, HJx.out.putObj _ HJV.out (by omega) hK rfl⟩⟩
theorem between_calls (a b : Int) (w : World) :
    Calls Tryz.prog 112 #[.int .u16 a, .int .u16 b] w fun e w' => e = .returned (.func (.func 153) #[] #[.pointer (some ⟨w.heap.size, 0, none⟩), .pointer (some ⟨w.heap.size + 1, 0, none⟩)]) ∧ w' = (w.alloc (.cells #[.int .u16 a] 66)).alloc (.cells #[.int .u16 b] 66) := by
  go_enter Tryz.func112, Tryz.ntmps112
  go_wp2
  go_ret
  exact ⟨rfl, rfl⟩
theorem madeM_calls (gf hf : Nat) (lb hb : Array Value) (w : World) :
    Calls Tryz.prog 111 #[.func (.func gf) #[] lb, .func (.func hf) hb #[]] w fun e w' => e = .returned (.func (.func 152) #[] #[.pointer (some ⟨w.heap.size, 0, none⟩), .pointer (some ⟨w.heap.size + 1, 0, none⟩)]) ∧ w' = (w.alloc (.cells #[.func (.func gf) #[] lb] 126)).alloc (.cells #[.func (.func hf) hb #[]] 128) := by
  go_enter Tryz.func111, Tryz.ntmps111
  go_wp2
  go_ret
  exact ⟨rfl, rfl⟩
theorem madeW_calls (gf hf : Nat) (lb hb : Array Value) (w : World) :
    Calls Tryz.prog 67 #[.func (.func gf) #[] lb, .func (.func hf) hb #[]] w fun e w' => e = .returned (.func (.func 110) #[] #[.pointer (some ⟨w.heap.size, 0, none⟩), .pointer (some ⟨w.heap.size + 1, 0, none⟩)]) ∧ w' = (w.alloc (.cells #[.func (.func gf) #[] lb] 94)).alloc (.cells #[.func (.func hf) hb #[]] 97) := by
  go_enter Tryz.func67, Tryz.ntmps67
  go_wp2
  go_ret
  exact ⟨rfl, rfl⟩
/-- What 'codeWords' leaves in memory: four boxes. -/
def cwW (a b : Int) (w : World) : World :=
  (((w.alloc (.cells #[.int .u16 a] 66)).alloc (.cells #[.int .u16 b] 66)).alloc (.cells #[.func (.func 153) #[] #[.pointer (some ⟨w.heap.size, 0, none⟩), .pointer (some ⟨w.heap.size + 1, 0, none⟩)]] 126)).alloc (.cells #[.func (.func 48) #[] #[]] 128)
theorem cwW_size (a b : Int) (w : World) : (cwW a b w).heap.size = w.heap.size + 4 := by simp [cwW]
theorem cwW_below (a b : Int) (w : World) : Below w.heap.size w (cwW a b w) := ((((Below.refl _ w).alloc (Nat.le_refl _) _).alloc (by simp) _).alloc (by simp; omega) _).alloc (by simp; omega) _
theorem codeWords_calls (a b : Int) (w : World) :
    Calls Tryz.prog 68 #[.int .u16 a, .int .u16 b] w fun e w' => e = .returned (.func (.func 152) #[] #[.pointer (some ⟨w.heap.size + 2, 0, none⟩), .pointer (some ⟨w.heap.size + 3, 0, none⟩)]) ∧ w' = cwW a b w := by
  go_enter Tryz.func68, Tryz.ntmps68
  go_wp2_with fail
  refine (between_calls _ _ _).mono ?_
  rintro e w' ⟨rfl, rfl⟩
  go_wp2_with fail
  refine (madeM_calls _ _ _ _ _).mono ?_
  rintro e w' ⟨rfl, rfl⟩
  go_wp2_with fail
  go_ret
  exact ⟨by simp, rfl⟩
def encW (x : Fin 4096) : Array Value := #[.int .u32 (codeOf (x.val : Nat))]
set_option maxHeartbeats 1000000 in
theorem codeWords_itG (lo hi n₀ lw mid : Nat) (hlo : lo ≤ hi) (hhi : hi < 4096) (w W : World) (hb : Below (cwW lo hi w).heap.size (cwW lo hi w) W) (hn : n₀ ≤ w.heap.size) (hg : tab2G < n₀) (hl : lw ≤ w.heap.size) (hm : w.heap.size + 4 ≤ mid) (hmW : mid ≤ W.heap.size) (hT : Tab2 w) :
    SeqItG Tryz.prog 152 #[.pointer (some ⟨w.heap.size + 2, 0, none⟩), .pointer (some ⟨w.heap.size + 3, 0, none⟩)] encW 3 (KpOf n₀ lw mid) (fun ys => ys.map (fun x => x.val) = msgs lo hi) (fun _ => True) (MsgAt lo hi) W := by
  have hs := cwW_size lo hi w
  have hs2 := hb.size
  have c0 : (cwW lo hi w).cell? ⟨w.heap.size, 0, none⟩ = some (.int .u16 lo) := (((Boxed.new w 66 (.int .u16 lo)).alloc _).alloc _).alloc _ |>.cell
  have c1 : (cwW lo hi w).cell? ⟨w.heap.size + 1, 0, none⟩ = some (.int .u16 hi) := by
    have := ((Boxed.new (w.alloc (.cells #[.int .u16 lo] 66)) 66 (.int .u16 hi)).alloc (.cells #[.func (.func 153) #[] #[.pointer (some ⟨w.heap.size, 0, none⟩), .pointer (some ⟨w.heap.size + 1, 0, none⟩)]] 126)).alloc (.cells #[.func (.func 48) #[] #[]] 128)
    rw [World.size_alloc] at this
    exact this.cell
  have c2 : (cwW lo hi w).cell? ⟨w.heap.size + 2, 0, none⟩ = some (.func (.func 153) #[] #[.pointer (some ⟨w.heap.size, 0, none⟩), .pointer (some ⟨w.heap.size + 1, 0, none⟩)]) := by
    have := (Boxed.new ((w.alloc (.cells #[.int .u16 lo] 66)).alloc (.cells #[.int .u16 hi] 66)) 126 (.func (.func 153) #[] #[.pointer (some ⟨w.heap.size, 0, none⟩), .pointer (some ⟨w.heap.size + 1, 0, none⟩)])).alloc (.cells #[.func (.func 48) #[] #[]] 128)
    rw [World.size_alloc, World.size_alloc] at this
    exact this.cell
  have c3 : (cwW lo hi w).cell? ⟨w.heap.size + 3, 0, none⟩ = some (.func (.func 48) #[] #[]) := by
    have := Boxed.new (((w.alloc (.cells #[.int .u16 lo] 66)).alloc (.cells #[.int .u16 hi] 66)).alloc (.cells #[.func (.func 153) #[] #[.pointer (some ⟨w.heap.size, 0, none⟩), .pointer (some ⟨w.heap.size + 1, 0, none⟩)]] 126)) 128 (.func (.func 48) #[] #[])
    rw [World.size_alloc, World.size_alloc, World.size_alloc] at this
    exact this.cell
  have hT' : Tab2 (cwW lo hi w) := hT.below (cwW_below _ _ _) hT.lt
  refine SeqItG.later (w := W) ?_ (Below.refl _ _)
  refine madeM_it 153 48 #[.pointer (some ⟨w.heap.size, 0, none⟩), .pointer (some ⟨w.heap.size + 1, 0, none⟩)] #[] (fun x : Fin 4096 => #[Value.int .u16 (x.val : Nat)]) (fun x => .int .u32 (codeOf (x.val : Nat))) (fun x => .int .u16 (x.val : Nat)) (fun _ => rfl) 0 n₀ lw mid (w.heap.size + 2) (w.heap.size + 3) _ _ _ W W Tab2
    (msgs_it lo hi w.heap.size (w.heap.size + 1) n₀ lw mid hlo hhi W (by omega) (by omega) (by omega) (by omega) ((hb.cell (p := ⟨w.heap.size, 0, none⟩) (by rw [hs]; show w.heap.size < _; omega)).trans c0) ((hb.cell (p := ⟨w.heap.size + 1, 0, none⟩) (by rw [hs]; show w.heap.size + 1 < _; omega)).trans c1)) (Below.refl _ _)
    (enters_of Tryz.func153 (by kernel_rfl) rfl) (enters_of Tryz.func48 (by kernel_rfl) rfl)
    (fun A B h k => h.below k.1 hg) (fun x V hV => by simpa using message_word (x.val : Nat) V ⟨by omega, by omega⟩ hV)
    (by omega) (by omega) (by omega) (by omega) hmW (by omega)
    ((hb.cell (p := ⟨w.heap.size + 2, 0, none⟩) (by rw [hs]; show w.heap.size + 2 < _; omega)).trans c2) ((hb.cell (p := ⟨w.heap.size + 3, 0, none⟩) (by rw [hs]; show w.heap.size + 3 < _; omega)).trans c3) (hT'.below hb (by have := hT.lt; omega))
theorem codeWords_it (lo hi n₀ lw mid : Nat) (hlo : lo ≤ hi) (hhi : hi < 4096) (w W : World) (hb : Below (cwW lo hi w).heap.size (cwW lo hi w) W) (hn : n₀ ≤ w.heap.size) (hg : tab2G < n₀) (hl : lw ≤ w.heap.size) (hm : w.heap.size + 4 ≤ mid) (hmW : mid ≤ W.heap.size) (hT : Tab2 w) :
    SeqIt Tryz.prog 152 #[.pointer (some ⟨w.heap.size + 2, 0, none⟩), .pointer (some ⟨w.heap.size + 3, 0, none⟩)] encW 3 (KpOf n₀ lw mid) (fun ys => ys.map (fun x => x.val) = msgs lo hi) (fun _ => True) (hi + 1 - lo) W :=
  (codeWords_itG lo hi n₀ lw mid hlo hhi w W hb hn hg hl hm hmW hT).mono fun _ _ h => h.1
end Go.Proofs.YtcfhfllcdliaoaaGreatDoor
