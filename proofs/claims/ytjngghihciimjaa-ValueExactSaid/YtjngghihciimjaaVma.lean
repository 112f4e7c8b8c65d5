/-
  Right bundles, and their sums: plain mathematics.
-/
import Derived.Test.YtjngghihciimjaaVto
namespace Go.Proofs.Ytjngghihciimjaa
set_option maxRecDepth 100000
open Go.RowKit Go.Sort Go.Maps

/-- A row that is called well. -/
theorem wellB_iff (l : List As) : wellB isPos l = true ↔ (∀ a, a ∈ l → a.nm.2.length ≤ 32 ∧ 1 ≤ a.amt) ∧ l.Pairwise fun a b => cN a.nm b.nm < 0 := by
  have hD : ∀ (i : Nat) (h : i < l.length), l.getD i default = l[i] := fun i h => by simp [List.getD, h]
  constructor
  · intro h
    have hall : ∀ i, i < l.length → okAt isPos l i = true := fun i hi => by
      unfold wellB at h
      exact List.all_eq_true.1 h i (List.mem_range.2 hi)
    have hadj : ∀ i (h1 : i + 1 < l.length), cN (l[i]'(by omega)).nm (l[i + 1]).nm < 0 := fun i h1 => by
      have h2 := hall (i + 1) h1
      unfold okAt at h2
      rw [hD (i + 1) h1, Nat.add_sub_cancel, hD i (by omega)] at h2
      simp at h2
      exact h2.2
    have hlt : ∀ (d i : Nat) (h1 : i + (d + 1) < l.length), cN (l[i]'(by omega)).nm (l[i + (d + 1)]).nm < 0 := fun d => by
      induction d with
      | zero => exact fun i h1 => hadj i h1
      | succ d ih => exact fun i h1 => cN_trans (ih i (by omega)) (hadj (i + (d + 1)) h1)
    refine ⟨fun a ha => ?_, List.pairwise_iff_getElem.2 fun i j hi hj hij => ?_⟩
    · obtain ⟨i, hi, rfl⟩ := List.mem_iff_getElem.1 ha
      have h2 := hall i hi
      unfold okAt isPos at h2
      rw [hD i hi] at h2
      simp only [Bool.and_eq_true, decide_eq_true_iff] at h2
      exact ⟨h2.1.1, h2.1.2⟩
    · obtain ⟨d, rfl⟩ : ∃ d, j = i + (d + 1) := ⟨j - i - 1, by omega⟩
      exact hlt d i hj
  · rintro ⟨h1, h2⟩
    refine well_yes fun i hi => ?_
    unfold okAt isPos
    rw [hD i hi]
    have h3 := h1 _ (List.getElem_mem hi)
    simp only [Bool.and_eq_true, decide_eq_true_iff]
    refine ⟨⟨h3.1, h3.2⟩, ?_⟩
    rw [Bool.or_eq_true, beq_iff_eq, decide_eq_true_iff]
    by_cases h0 : i = 0
    · exact .inl h0
    · right
      rw [hD (i - 1) (by omega)]
      exact (List.pairwise_iff_getElem.1 h2) (i - 1) i (by omega) hi (by omega)
theorem right_iff (coin : Int) (l : List As) : rightB coin l = true ↔ 0 ≤ coin ∧ l.length ≤ 30 ∧ (∀ a, a ∈ l → a.nm.2.length ≤ 32 ∧ 1 ≤ a.amt) ∧ l.Pairwise fun a b => cN a.nm b.nm < 0 := by
  unfold rightB
  rw [Bool.and_eq_true, Bool.and_eq_true, decide_eq_true_iff, decide_eq_true_iff, wellB_iff, and_assoc]
theorem ctsL_few : ∀ {vs : List Va}, vs.all rightV = true → (ctsL vs).length ≤ 30 * vs.length
  | [], _ => by simp [ctsL]
  | v :: vs, h => by
    rw [List.all_cons, Bool.and_eq_true] at h
    have h1 := ((right_iff v.coin v.l).1 h.1).2.1
    have h2 := ctsL_few h.2
    have e : ctsL (v :: vs) = ctsOf v ++ ctsL vs := rfl
    rw [e, List.length_append, List.length_cons]
    unfold ctsOf
    rw [List.length_map]
    omega
theorem ctsL_mem {vs : List Va} {p : Ct} (h : p ∈ ctsL vs) : ∃ v, v ∈ vs ∧ ∃ a, a ∈ v.l ∧ p = (a.nm, wide a.amt) := by
  obtain ⟨v, hv, h1⟩ := List.mem_flatMap.1 h
  obtain ⟨a, ha, h2⟩ := List.mem_map.1 h1
  exact ⟨v, hv, a, ha, h2.symm⟩
end Go.Proofs.Ytjngghihciimjaa
