/-
  Two messages: where their first 16 bytes differ, some digit is below and some above. Plain mathematics.
-/
import Derived.Test.YtgempifedhiknaaDoorWdig
namespace Go.Proofs.YtgempifedhiknaaDoor
open Go.RowKit Sha

theorem left_le {a b : List UInt8} : ∀ n, (∀ i, i < n → wdig a i ≤ wdig b i) → leftD b n ≤ leftD a n
  | 0, _ => Nat.le_refl _
  | n + 1, h => by
    have h1 := left_le n fun i hi => h i (by omega)
    have h2 := h n (by omega)
    simp only [leftD]; omega
theorem left_lt {a b : List UInt8} (k : Nat) (hk : wdig a k < wdig b k) : ∀ n, k < n → (∀ i, i < n → wdig a i ≤ wdig b i) → leftD b n < leftD a n
  | 0, h, _ => by omega
  | n + 1, hkn, h => by
    have h2 := wdig_lt b n
    have h3 := h n (by omega)
    simp only [leftD]
    by_cases e : k = n
    · subst e
      have := left_le (a := a) (b := b) k fun i hi => h i (by omega)
      omega
    · have := left_lt k hk n (by omega) fun i hi => h i (by omega)
      omega
theorem digit_w (m : List UInt8) (i : Nat) (h : i < 32) : digit m i = wdig m i := by unfold digit; rw [if_pos h]
theorem digit_a (m : List UInt8) : digit m 32 = leftD m 32 / 256 := by unfold digit; rw [if_neg (by omega), if_pos rfl]
theorem digit_b (m : List UInt8) : digit m 33 = leftD m 32 / 16 % 16 := by unfold digit; rw [if_neg (by omega), if_neg (by omega), if_pos rfl]
theorem digit_c (m : List UInt8) : digit m 34 = leftD m 32 % 16 := by unfold digit; rw [if_neg (by omega), if_neg (by omega), if_neg (by omega)]
theorem tail_le {a b : List UInt8} (h : ∀ i, i < 35 → digit a i ≤ digit b i) : leftD a 32 ≤ leftD b 32 := by
  have h1 := h 32 (by omega)
  have h2 := h 33 (by omega)
  have h3 := h 34 (by omega)
  rw [digit_a, digit_a] at h1
  rw [digit_b, digit_b] at h2
  rw [digit_c, digit_c] at h3
  have ha := leftD_le a 32
  have hb := leftD_le b 32
  generalize leftD a 32 = x at *
  generalize leftD b 32 = y at *
  omega
theorem wdig_ne {a b : List UInt8} (j : Nat) (h : a.getD j 0 ≠ b.getD j 0) : wdig a (2 * j) ≠ wdig b (2 * j) ∨ wdig a (2 * j + 1) ≠ wdig b (2 * j + 1) := by
  have e1 : (2 * j + 1) / 2 = j := by omega
  have e2 : 2 * j / 2 = j := by omega
  unfold wdig
  rw [if_pos (by omega), if_pos (by omega), if_neg (by omega), if_neg (by omega), e1, e2]
  have hn : (a.getD j 0).toNat ≠ (b.getD j 0).toNat := fun e => h (UInt8.toNat_inj.1 e)
  omega
theorem some_below {a b : List UInt8} (h : ∃ j, j < 16 ∧ a.getD j 0 ≠ b.getD j 0) : ∃ i, i < 35 ∧ digit a i < digit b i := by
  apply Classical.byContradiction
  intro hn
  have hle : ∀ i, i < 35 → digit b i ≤ digit a i := fun i hi => by
    apply Decidable.byContradiction
    intro hc
    exact hn ⟨i, hi, by omega⟩
  obtain ⟨j, hj, hne⟩ := h
  have hw : ∀ i, i < 32 → wdig b i ≤ wdig a i := fun i hi => by
    have := hle i (by omega)
    rwa [digit_w _ i hi, digit_w _ i hi] at this
  have hlt : ∃ k, k < 32 ∧ wdig b k < wdig a k := by
    rcases wdig_ne j hne with e | e
    · exact ⟨2 * j, by omega, by have := hw (2 * j) (by omega); omega⟩
    · exact ⟨2 * j + 1, by omega, by have := hw (2 * j + 1) (by omega); omega⟩
  obtain ⟨k, hk, hk2⟩ := hlt
  have h1 := left_lt k hk2 32 hk hw
  have h2 := tail_le hle
  omega
theorem left_same {a b : List UInt8} : ∀ n, (∀ i, i < n → wdig a i = wdig b i) → leftD a n = leftD b n
  | 0, _ => rfl
  | n + 1, h => by simp only [leftD]; rw [left_same n fun i hi => h i (by omega), h n (by omega)]
theorem digit_same {a b : List UInt8} (h : ∀ j, j < 16 → a.getD j 0 = b.getD j 0) (i : Nat) : digit a i = digit b i := by
  have hw : ∀ i, i < 32 → wdig a i = wdig b i := fun i hi => by unfold wdig; rw [h (i / 2) (by omega)]
  have hl := left_same 32 hw
  unfold digit
  rw [hl]
  by_cases hi : i < 32
  · rw [if_pos hi, if_pos hi, hw i hi]
  · rw [if_neg hi, if_neg hi]
/-- Are the first k bytes the same? -/
def sameTo (a b : List UInt8) (k : Nat) : Bool := (List.range k).all fun j => a.getD j 0 == b.getD j 0
theorem sameTo_succ (a b : List UInt8) (k : Nat) : sameTo a b (k + 1) = (sameTo a b k && (a.getD k 0 == b.getD k 0)) := by
  unfold sameTo
  rw [List.range_succ, List.all_append]
  simp
theorem sameTo_yes {a b : List UInt8} {k : Nat} (h : sameTo a b k = true) : ∀ j, j < k → a.getD j 0 = b.getD j 0 := fun j hj => by
  unfold sameTo at h
  rw [List.all_eq_true] at h
  exact beq_iff_eq.1 (h j (List.mem_range.2 hj))
theorem sameTo_no {a b : List UInt8} {k : Nat} (h : sameTo a b k = false) : ∃ j, j < k ∧ a.getD j 0 ≠ b.getD j 0 := by
  unfold sameTo at h
  rw [List.all_eq_false] at h
  obtain ⟨j, hj, hne⟩ := h
  exact ⟨j, List.mem_range.1 hj, fun e => hne (beq_iff_eq.2 e)⟩
/-- Is some digit of the first k below? -/
def lowTo (a b : List UInt8) (k : Nat) : Bool := (List.range k).any fun j => decide (digit a j < digit b j)
theorem lowTo_succ (a b : List UInt8) (k : Nat) : lowTo a b (k + 1) = (lowTo a b k || decide (digit a k < digit b k)) := by
  unfold lowTo
  rw [List.range_succ, List.any_append]
  simp
theorem lowTo_no {a b : List UInt8} (h : sameTo a b 16 = true) (k : Nat) : lowTo a b k = false := by
  unfold lowTo
  rw [List.any_eq_false]
  intro j _
  rw [digit_same (sameTo_yes h) j]
  simp
theorem lowTo_yes {a b : List UInt8} (h : sameTo a b 16 = false) : lowTo a b 35 = true := by
  obtain ⟨i, hi, hlt⟩ := some_below (sameTo_no h)
  unfold lowTo
  rw [List.any_eq_true]
  exact ⟨i, List.mem_range.2 hi, by simpa using hlt⟩
theorem sameTo_symm (a b : List UInt8) (k : Nat) : sameTo a b k = sameTo b a k := by
  unfold sameTo
  congr 1
  funext j
  rw [Bool.eq_iff_iff, beq_iff_eq, beq_iff_eq]
  exact eq_comm
end Go.Proofs.YtgempifedhiknaaDoor
