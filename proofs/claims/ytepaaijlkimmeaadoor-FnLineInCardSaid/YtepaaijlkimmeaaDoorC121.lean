/- Sets that the call makes, as a map to a bool: what it holds, how many, and the look-up. No program is named here. -/
import Derived.Test.YtepaaijlkimmeaaDoorM35
import Derived.Test.YtepaaijlkimmeaaDoorC100
import Derived.Maps.OwnSet
namespace Go.Proofs.YtepaaijlkimmeaaDoor
open Go.RowKit Go.Maps
set_option linter.unusedVariables false

theorem plain_bool_inv {H : Type} {P : Program} {e : TypeId} (he : P.underlying e = some .bool) {v : Value} {z : DataW H × List MemPlace} (h : plainElem P e v = some z) : ∃ x, v = .bool x ∧ z = (.lit (.bool x), []) := by
  unfold plainElem at h
  rw [he] at h
  cases v <;> simp at h
  exact ⟨_, rfl, h.symm⟩
/-- The look-up in a map of bools that the call made, at the operation. -/
theorem lookup_own_bool {H : Type} {P : Program} (w : World) {ops : Array Oper} {rest : List Oper} {o : Oper} {a : Act} {Q : Exit → Act → World → Prop}
    (hg : o.guard = none) (m x : Operand) (t : TypeId) (hop : o.op = Op.lookup t m x false)
    (k e : TypeId) (K : Keyed P k) (ht : P.underlying t = some (.map k e)) (he : P.underlying e = some .bool) (hz : (zeroValue e).run P w = .ok (.bool false) w) (b n : Nat) (D : DataW H)
    (hm : a.eval m = .map (some b)) (hown : w.ownsMap P k (plainElem P e) b n D) (key : Value) (kl : Lit) (hx : a.eval x = key) (hkey : keyOf P k key = some kl) (y : Bool) (hat : D.atKey kl (.lit (.bool false)) = .lit (.bool y))
    (hK : wpList P ops Q rest (a.put o.dst (.bool y)) w) :
    wpList P ops Q (o :: rest) a w := by
  refine wpList_plain hg fun K' hK' => ?_
  obtain ⟨v, ps, hrun, hv⟩ := hown.lookup K ht hz (plainElem_bool he false) hkey
  obtain ⟨c, rfl, hc⟩ := plain_bool_inv he hv
  simp only [Prod.mk.injEq, hat] at hc
  have hc1 := hc.1
  simp only [DataW.lit.injEq, Lit.bool.injEq] at hc1
  subst hc1
  unfold Oper.wp
  simp [execOp, hop, hm, hx, hrun, Result.andThen]
  exact hK' _ _ hK
def mapSz (w : World) (b : Nat) : Nat := match w.heap[b]? with | some (.map es _) => es.size | _ => 0
theorem mapSz_own {H : Type} {P : Program} {k : TypeId} {R : Value → Option (DataW H × List MemPlace)} {w : World} {b n : Nat} {D : DataW H} (h : w.ownsMap P k R b n D) : mapSz w b = Maps.size D := by
  obtain ⟨es, clock, hb, _, _, rfl⟩ := h
  unfold mapSz
  rw [hb]
  simp [Maps.size, length_sorted]

/-! ### The set of the first powers -/
def ktt : DataW Unit := .lit (.bool true)
theorem fold_at (k : Lit) (hk : WideAt.IsKeyLit k) (z : DataW Unit) : ∀ (acc : List Lit) (m : DataW Unit), IsMap m → (k ∈ acc ∨ m.atKey k z = ktt) → (acc.foldl (fun m x => m.put x ktt) m).atKey k z = ktt
  | [], m, _, h => by simpa using h
  | x :: acc, m, hm, h => fold_at k hk z acc (m.put x ktt) (hm.put _ _) (by
    by_cases e : x = k
    · subst e
      exact .inr (atKey_put_same hm hk _ _)
    · rcases h with h | h
      · rcases List.mem_cons.1 h with h | h
        · exact absurd h.symm e
        · exact .inl h
      · exact .inr ((atKey_put_other (fun e' => e e'.symm) _ _).trans h))
def kyP (P : List Nat) : Lit := .string (keyBytes ((intP P).map (Lit.int .i64)))
def keysP (P : List Nat) (j : Nat) : List Lit := (List.range j).map fun i => kyP (powN P (i + 1))
def setP (P : List Nat) (j : Nat) : DataW Unit := setOf ktt (keysP P j)
theorem keysP_key (P : List Nat) (j : Nat) : ∀ x ∈ keysP P j, WideAt.IsKeyLit x := fun x hx => by
  obtain ⟨i, _, rfl⟩ := List.mem_map.1 hx
  trivial
theorem setP_zero (P : List Nat) : setP P 0 = .map [] := rfl
theorem setP_succ (P : List Nat) (j : Nat) : setP P (j + 1) = (setP P j).put (kyP (powN P (j + 1))) ktt := by
  unfold setP keysP
  rw [List.range_succ, List.map_append]
  exact setOf_snoc _ _ _
theorem setP_has {P : List Nat} (h : PermN P) (inj : ∀ j k, kyP (powN P j) = kyP (powN P k) → powN P j = powN P k) (j : Nat) (hj : j < ordP P) : Maps.has (setP P j) (kyP (powN P (j + 1))) = false := by
  unfold setP
  rw [has_setOf _ _ _ (keysP_key P j), List.any_eq_false]
  intro x hx
  obtain ⟨i, hi, rfl⟩ := List.mem_map.1 hx
  have hi' := List.mem_range.1 hi
  rw [sameKey_ne]
  · decide
  · intro e
    exact pow_new h (i + 1) (j + 1) (by omega) (by omega) (inj _ _ e).symm
theorem setP_new {P : List Nat} (h : PermN P) (inj : ∀ j k, kyP (powN P j) = kyP (powN P k) → powN P j = powN P k) (j : Nat) (hj : j < ordP P) : (setP P j).atKey (kyP (powN P (j + 1))) (.lit (.bool false)) = .lit (.bool false) :=
  atKey_of_not_has (setP_has h inj j hj) _
theorem setP_old {P : List Nat} (h : PermN P) : (setP P (ordP P)).atKey (kyP (powN P (ordP P + 1))) (.lit (.bool false)) = .lit (.bool true) := by
  refine fold_at (kyP (powN P (ordP P + 1))) (show WideAt.IsKeyLit (Lit.string _) from trivial) _ _ _ ⟨_, rfl⟩ (.inl ?_)
  rw [pow_back h]
  exact List.mem_map.2 ⟨0, List.mem_range.2 (ordP_rng h).1, rfl⟩
theorem setP_size {P : List Nat} (h : PermN P) (inj : ∀ j k, kyP (powN P j) = kyP (powN P k) → powN P j = powN P k) : ∀ j, j ≤ ordP P → Maps.size (setP P j) = j
  | 0, _ => rfl
  | j + 1, hj => by
    have ht : Tidy (setP P j) := tidy_setOf _ _ (keysP_key P j)
    rw [setP_succ, size_put ht, setP_has h inj j (by omega), setP_size h inj j (by omega)]
    simp
end Go.Proofs.YtepaaijlkimmeaaDoor
