/- Sextets: the tetrads with one syndrome; tables, sums, octads of a sextet. No program is named here. -/
import Derived.Test.YtcfhfllcdliaoaaGreatDoorP3
namespace Go.Proofs.YtcfhfllcdliaoaaGreatDoor
set_option linter.unusedVariables false
attribute [local irreducible] octS cN octF syn

/-! ### Tetrads and sextets -/
def Tet (x : Int) : Prop := 0 ≤ x ∧ x ≤ 16777215 ∧ wt x = 4
def tetB (x : Int) : Bool := wordB x && decide (wt x = 4)
theorem tetB_iff (x : Int) : tetB x = true ↔ Tet x := by
  unfold tetB Tet
  rw [Bool.and_eq_true, wordB_iff, decide_eq_true_eq]
  exact ⟨fun h => ⟨h.1.1, h.1.2, h.2⟩, fun h => ⟨⟨h.1, h.2.1⟩, h.2.2⟩⟩
def synI (x : Int) : Nat := syn x.toNat
def sortI (L : List Int) : List Int := L.mergeSort fun x y => decide (x ≤ y)
theorem sortI_perm (L : List Int) : (sortI L).Perm L := List.mergeSort_perm _ _
theorem sortI_pair (L : List Int) : (sortI L).Pairwise (· ≤ ·) := ms_pair L
theorem sortI_len (L : List Int) : (sortI L).length = L.length := (sortI_perm L).length_eq
theorem le_perm_eq : ∀ (L M : List Int), L.Perm M → L.Pairwise (· ≤ ·) → M.Pairwise (· ≤ ·) → L = M := fun L M h hl hm =>
  h.eq_of_pairwise (le := (· ≤ ·)) (fun a b _ _ h1 h2 => Int.le_antisymm h1 h2) hl hm
theorem sortI_eq {L M : List Int} (h : M.Perm L) (hs : M.Pairwise (· ≤ ·)) : M = sortI L :=
  le_perm_eq _ _ (h.trans (sortI_perm L).symm) hs (sortI_pair L)
theorem sortI_congr {L M : List Int} (h : L.Perm M) : sortI L = sortI M := sortI_eq ((sortI_perm L).trans h) (sortI_pair L)
theorem Tet.nat {x : Int} (h : Tet x) : ∃ t : Nat, x = (t : Int) ∧ t < 16777216 ∧ pop t = 4 := by
  obtain ⟨h0, h1, h4⟩ := h
  obtain ⟨t, rfl⟩ := Int.eq_ofNat_of_zero_le h0
  rw [wt_pop] at h4
  exact ⟨t, rfl, by omega, by omega⟩
theorem tet_of {t : Nat} (h : t < 16777216) (hp : pop t = 4) : Tet (t : Int) := ⟨by omega, by omega, by rw [wt_pop, hp]; rfl⟩
theorem synI_nat (t : Nat) : synI (t : Int) = syn t := by unfold synI; rw [Int.toNat_natCast]
/-- The tetrads of a sextet: the first one, and what the octads with it have besides. -/
def ofSx (w : Int) : List Int := w :: (oWith w).map fun x => xorI x w
def sxOf (w : Int) : List Int := sortI (ofSx w)
theorem oct_syn {x : Int} (h : IsOct x) : ∃ n : Nat, x = (n : Int) ∧ n < 16777216 ∧ pop n = 8 ∧ syn n = 0 := by
  obtain ⟨m, hm, rfl, h8⟩ := h
  rw [codeOf_cN m hm] at *
  rw [wt_pop] at h8
  exact ⟨cN m, rfl, cN_lt m, by omega, syn_cN m⟩
theorem oct_of_syn {n : Nat} (h : n < 16777216) (h8 : pop n = 8) (hs : syn n = 0) : IsOct (n : Int) :=
  ⟨lin gM n, msg_lt n, by rw [codeOf_cN _ (msg_lt n), ← in_code n h hs], by rw [wt_pop, h8]; rfl⟩
theorem xor_zero_syn {a b : Nat} (h : syn (a ^^^ b) = 0) : syn a = syn b := by
  rw [syn_xor] at h
  exact xor_eq_zero h
/-- Just the tetrads with the syndrome. -/
theorem ofSx_mem {w : Int} (hw : Tet w) (x : Int) : x ∈ ofSx w ↔ Tet x ∧ synI x = synI w := by
  obtain ⟨W, rfl, hW, p4⟩ := hw.nat
  unfold ofSx
  rw [List.mem_cons, List.mem_map]
  constructor
  · rintro (rfl | ⟨o, ho, rfl⟩)
    · exact ⟨hw, rfl⟩
    · obtain ⟨h1, h2⟩ := oWith_mem.1 ho
      obtain ⟨n, rfl, hn, p8, s0⟩ := oct_syn h1
      rw [xorI_nat, synI_nat, synI_nat]
      rw [andI_nat] at h2
      have h2' : n &&& W = W := by omega
      have hp := pop_xor n W
      rw [h2'] at hp
      refine ⟨tet_of (xor_lt24 _ _ hn hW) (by omega), ?_⟩
      rw [syn_xor, s0, Nat.zero_xor]
  · rintro ⟨hx, hs⟩
    obtain ⟨t, rfl, ht, pt⟩ := hx.nat
    rw [synI_nat, synI_nat] at hs
    rcases tet_apart t W ht hW pt p4 hs with e | e
    · exact .inl (by rw [e])
    · refine .inr ⟨((t ^^^ W : Nat) : Int), oWith_mem.2 ⟨oct_of_syn (xor_lt24 _ _ ht hW) (by have := pop_xor t W; rw [e, pop_zero_] at this; omega) (by rw [syn_xor, hs, Nat.xor_self]), ?_⟩, by rw [xorI_nat, xor_back]⟩
      rw [andI_nat, Nat.and_xor_distrib_right, e, Nat.and_self, Nat.zero_xor]
theorem map_xor_nodup (w : Int) (hw : 0 ≤ w) : ∀ L : List Int, (∀ x ∈ L, 0 ≤ x) → L.Nodup → (L.map fun x => xorI x w).Nodup
  | [], _, _ => by simp
  | a :: L, h, hn => by
    obtain ⟨h1, h2⟩ := List.nodup_cons.1 hn
    rw [List.map_cons, List.nodup_cons]
    refine ⟨fun hm => ?_, map_xor_nodup w hw L (fun x hx => h x (List.mem_cons_of_mem _ hx)) h2⟩
    obtain ⟨b, hb, e⟩ := List.mem_map.1 hm
    obtain ⟨A, rfl⟩ := Int.eq_ofNat_of_zero_le (h a (List.mem_cons_self ..))
    obtain ⟨B, rfl⟩ := Int.eq_ofNat_of_zero_le (h b (List.mem_cons_of_mem _ hb))
    obtain ⟨W, rfl⟩ := Int.eq_ofNat_of_zero_le hw
    rw [xorI_nat, xorI_nat] at e
    have e2 : B ^^^ W = A ^^^ W := by omega
    have e3 : B = A := by rw [← xor_back B W, e2, xor_back]
    subst e3
    exact h1 hb
theorem oWith_tet {w : Int} (hw : Tet w) : (oWith w).length = 5 := by
  obtain ⟨W, rfl, hW, p4⟩ := hw.nat
  rw [oWith_thr]
  exact thr4 W hW p4
theorem ofSx_len {w : Int} (hw : Tet w) : (ofSx w).length = 6 := by unfold ofSx; rw [List.length_cons, List.length_map, oWith_tet hw]
theorem ofSx_nodup {w : Int} (hw : Tet w) : (ofSx w).Nodup := by
  unfold ofSx
  rw [List.nodup_cons]
  refine ⟨fun hm => ?_, map_xor_nodup w hw.1 _ (fun x hx => (oWith_mem.1 hx).1.rng.1) (oWith_asc w).nodup⟩
  obtain ⟨o, ho, e⟩ := List.mem_map.1 hm
  obtain ⟨h1, h2⟩ := oWith_mem.1 ho
  obtain ⟨n, rfl, hn, p8, s0⟩ := oct_syn h1
  obtain ⟨W, rfl, hW, p4⟩ := hw.nat
  rw [xorI_nat] at e
  rw [andI_nat] at h2
  have hp := pop_xor n W
  have e2 : n ^^^ W = W := by omega
  have e3 : n &&& W = W := by omega
  have e4 : n = 0 := by rw [← xor_back n W, e2, Nat.xor_self]
  rw [e4, pop_zero_] at p8
  omega
theorem sxOf_len {w : Int} (hw : Tet w) : (sxOf w).length = 6 := by unfold sxOf; rw [sortI_len, ofSx_len hw]
theorem sxOf_mem {w : Int} (hw : Tet w) (x : Int) : x ∈ sxOf w ↔ Tet x ∧ synI x = synI w := by
  unfold sxOf
  rw [(sortI_perm _).mem_iff, ofSx_mem hw]
theorem sxOf_asc {w : Int} (hw : Tet w) : Asc (sxOf w) := by
  have hn : (sxOf w).Nodup := (sortI_perm _).nodup_iff.2 (ofSx_nodup hw)
  unfold Asc
  exact ((sortI_pair (ofSx w)).and hn).imp fun {a b} h => by have := h.1; have := h.2; omega
/-- Each tetrad of a sextet has the sextet. -/
theorem sxOf_same {w x : Int} (hw : Tet w) (hx : x ∈ sxOf w) : Tet x ∧ sxOf x = sxOf w := by
  obtain ⟨h1, h2⟩ := (sxOf_mem hw x).1 hx
  refine ⟨h1, asc_ext _ _ (sxOf_asc h1) (sxOf_asc hw) fun y => ?_⟩
  rw [sxOf_mem h1, sxOf_mem hw, h2]
theorem sxOf_self {w : Int} (hw : Tet w) : w ∈ sxOf w := (sxOf_mem hw w).2 ⟨hw, rfl⟩
theorem sx_apart {w x y : Int} (hw : Tet w) (hx : x ∈ sxOf w) (hy : y ∈ sxOf w) (hne : x ≠ y) : andI x y = 0 ∧ IsOct (xorI x y) := by
  obtain ⟨h1, h2⟩ := (sxOf_mem hw x).1 hx
  obtain ⟨h3, h4⟩ := (sxOf_mem hw y).1 hy
  obtain ⟨a, rfl, ha, pa⟩ := h1.nat
  obtain ⟨b, rfl, hb, pb⟩ := h3.nat
  rw [synI_nat] at h2 h4
  rw [andI_nat, xorI_nat]
  rcases tet_apart a b ha hb pa pb (h2.trans h4.symm) with e | e
  · exact absurd (by rw [e]) hne
  · refine ⟨by rw [e]; rfl, oct_of_syn (xor_lt24 _ _ ha hb) (by have := pop_xor a b; rw [e, pop_zero_] at this; omega) (by rw [syn_xor, h2, h4, Nat.xor_self])⟩

/-! ### Valid lists -/
def sxB (L : List Int) : Bool := tetB (L.getD 0 0) && decide (L = sxOf (L.getD 0 0))
theorem sxB_iff (L : List Int) : sxB L = true ↔ ∃ w, Tet w ∧ L = sxOf w := by
  unfold sxB
  rw [Bool.and_eq_true, tetB_iff, decide_eq_true_eq]
  constructor
  · rintro ⟨h, e⟩; exact ⟨_, h, e⟩
  · rintro ⟨w, hw, rfl⟩
    have hm : (sxOf w).getD 0 0 ∈ sxOf w := by
      rw [← getD_at _ 0 (by rw [sxOf_len hw]; omega)]
      exact List.getElem_mem _
    obtain ⟨h1, h2⟩ := sxOf_same hw hm
    exact ⟨h1, h2.symm⟩
theorem sx_at {w : Int} (hw : Tet w) (k : Nat) (hk : k < 6) : (sxOf w).getD k 0 ∈ sxOf w := by
  rw [← getD_at _ k (by rw [sxOf_len hw]; omega)]
  exact List.getElem_mem _
theorem sx_ne {w : Int} (hw : Tet w) (i k : Nat) (hi : i < 6) (hk : k < 6) (h : i ≠ k) : (sxOf w).getD i 0 ≠ (sxOf w).getD k 0 := by
  intro e
  have hl := sxOf_len hw
  rcases Nat.lt_or_gt_of_ne h with h | h
  · have := asc_get (sxOf_asc hw) h (by omega); omega
  · have := asc_get (sxOf_asc hw) h (by omega); omega
theorem sx_lt {w : Int} (hw : Tet w) (i k : Nat) (hk : k < 6) (h : i < k) : (sxOf w).getD i 0 < (sxOf w).getD k 0 := asc_get (sxOf_asc hw) h (by rw [sxOf_len hw]; exact hk)

/-! ### All places -/
theorem or_apart (a b : Nat) (h : a &&& b = 0) : a ||| b = a ^^^ b := by
  refine Nat.eq_of_testBit_eq fun p => ?_
  have := congrArg (fun n => n.testBit p) h
  simp only [Nat.testBit_and, Nat.zero_testBit] at this
  rw [Nat.testBit_or, Nat.testBit_xor]
  revert this
  cases a.testBit p <;> cases b.testBit p <;> simp
theorem pop_or_apart (a b : Nat) (h : a &&& b = 0) : pop (a ||| b) = pop a + pop b := by
  have := pop_xor a b
  rw [← or_apart a b h, h, pop_zero_] at this
  omega
theorem pop_all : pop 16777215 = 24 := by decide
theorem all_places (n : Nat) (h : n < 16777216) (hp : pop n = 24) : n = 16777215 := by
  refine sub_eq (b := 16777215) ?_ h (by omega) (by rw [pop_all, hp]; exact Nat.le_refl _)
  unfold Sub
  rw [Nat.and_comm, show 16777215 = 2 ^ 24 - 1 from rfl, Nat.and_two_pow_sub_one_eq_mod, Nat.mod_eq_of_lt h]
/-- What the first k numbers of a list have together. -/
def orTo (L : List Int) : Nat → Int
  | 0 => 0
  | k + 1 => orI (orTo L k) (L.getD k 0)
theorem orI_nat (a b : Nat) : orI (a : Int) (b : Int) = ((a ||| b : Nat) : Int) := by unfold orI; simp
theorem sx_or {w : Int} (hw : Tet w) : ∀ k : Nat, k ≤ 6 → ∃ s : Nat, orTo (sxOf w) k = (s : Int) ∧ s < 16777216 ∧ pop s = 4 * k ∧ ∀ j, k ≤ j → j < 6 → andI (s : Int) ((sxOf w).getD j 0) = 0
  | 0, _ => ⟨0, rfl, by omega, pop_zero_, fun j _ _ => by unfold andI; simp⟩
  | k + 1, hk => by
    obtain ⟨s, e, hs, hp, ha⟩ := sx_or hw k (by omega)
    obtain ⟨ht, _⟩ := sxOf_same hw (sx_at hw k (by omega))
    obtain ⟨t, et, ht2, pt⟩ := ht.nat
    have h0 := ha k (Nat.le_refl _) (by omega)
    rw [et, andI_nat] at h0
    have h0' : s &&& t = 0 := by omega
    refine ⟨s ||| t, by rw [orTo, e, et, orI_nat], Nat.or_lt_two_pow (n := 24) hs ht2, by rw [pop_or_apart s t h0', hp, pt]; omega, fun j h1 h2 => ?_⟩
    have h3 := ha j (by omega) h2
    have h4 := (sx_apart hw (sx_at hw k (by omega)) (sx_at hw j h2) (sx_ne hw k j (by omega) h2 (by omega))).1
    obtain ⟨hj, _⟩ := sxOf_same hw (sx_at hw j h2)
    obtain ⟨u, eu, _, _⟩ := hj.nat
    rw [et] at h4
    rw [eu, andI_nat] at h3 h4 ⊢
    have h3' : s &&& u = 0 := by omega
    have h4' : t &&& u = 0 := by omega
    rw [Nat.and_or_distrib_right, h3', h4']
    rfl
theorem sx_or_all {w : Int} (hw : Tet w) : orTo (sxOf w) 6 = 16777215 := by
  obtain ⟨s, e, hs, hp, _⟩ := sx_or hw 6 (Nat.le_refl _)
  rw [e, all_places s hs hp]
  rfl
theorem sx_or_none {w : Int} (hw : Tet w) (k : Nat) (hk : k < 6) : andI (orTo (sxOf w) k) ((sxOf w).getD k 0) = 0 := by
  obtain ⟨s, e, _, _, ha⟩ := sx_or hw k (by omega)
  rw [e]
  exact ha k (Nat.le_refl _) hk
theorem sx_or_rng {w : Int} (hw : Tet w) (k : Nat) (hk : k ≤ 6) : 0 ≤ orTo (sxOf w) k ∧ orTo (sxOf w) k ≤ 16777215 := by
  obtain ⟨s, e, hs, _, _⟩ := sx_or hw k hk
  rw [e]
  omega

/-! ### Tables -/
def tabE (a b : List Int) (i k : Nat) : Int := wt (andI (a.getD i 0) (b.getD k 0))
def rowTo (x : Int) (b : List Int) : Nat → Int
  | 0 => 0
  | k + 1 => rowTo x b k + wt (andI x (b.getD k 0))
theorem row_or (x : Int) (hx : 0 ≤ x) {v : Int} (hv : Tet v) : ∀ k : Nat, k ≤ 6 → rowTo x (sxOf v) k = wt (andI x (orTo (sxOf v) k))
  | 0, _ => by
    have : wt 0 = 0 := by decide
    unfold rowTo orTo andI
    simp [this]
  | k + 1, hk => by
    rw [rowTo, row_or x hx hv k (by omega)]
    obtain ⟨s, e, hs, _, ha⟩ := sx_or hv k (by omega)
    obtain ⟨ht, _⟩ := sxOf_same hv (sx_at hv k (by omega))
    obtain ⟨t, et, _, _⟩ := ht.nat
    have h0 := ha k (Nat.le_refl _) (by omega)
    rw [et, andI_nat] at h0
    have h0' : s &&& t = 0 := by omega
    obtain ⟨X, rfl⟩ := Int.eq_ofNat_of_zero_le hx
    rw [orTo, e, et, orI_nat, andI_nat, andI_nat, andI_nat, wt_pop, wt_pop, wt_pop, Nat.and_or_distrib_left, pop_or_apart]
    · omega
    · rw [Nat.and_assoc, ← Nat.and_assoc s X t, Nat.and_comm s X, Nat.and_assoc X s t, h0', Nat.and_zero, Nat.and_zero]
theorem row_four {x v : Int} (hx : Tet x) (hv : Tet v) : rowTo x (sxOf v) 6 = 4 := by
  rw [row_or x hx.1 hv 6 (Nat.le_refl _), sx_or_all hv]
  obtain ⟨X, rfl, hX, pX⟩ := hx.nat
  rw [show (16777215 : Int) = ((16777215 : Nat) : Int) from rfl, andI_nat, wt_pop, show 16777215 = 2 ^ 24 - 1 from rfl, Nat.and_two_pow_sub_one_eq_mod, Nat.mod_eq_of_lt hX, pX]
  rfl
theorem andI_comm (a b : Int) : andI a b = andI b a := by unfold andI; rw [Nat.and_comm]
theorem tabE_comm (a b : List Int) (i k : Nat) : tabE a b i k = tabE b a k i := by unfold tabE; rw [andI_comm]
end Go.Proofs.YtcfhfllcdliaoaaGreatDoor
