/-
  TermReals' walk (6).
-/
import Derived.Test.YtieoiklgoeclaaaGreatTawk
import Derived.Lib.QuietBelow
namespace Go.Proofs.YtieoiklgoeclaaaGreat
open Go.RowKit Ieee

theorem canon_lt (a : Nat) (ha : a < 2 ^ 64) : canonB a < 2 ^ 64 := by
  unfold canonB
  split
  · decide
  · exact ha
theorem leaf_fo (x : Nd) (h : x.kids = 0) : [x] = (Fo.cons x .nil .nil).flat := by
  obtain ⟨a, b, c, d, e⟩ := x
  simp only at h
  subst h
  rfl
theorem leaf_inO (x : Nd) (h : x.kids = 0) : inO [x] = true := by rw [leaf_fo x h]; exact inO_fo _ rfl
theorem leaf_deep (x : Nd) (h : x.kids = 0) : deepT [x] = 1 := by rw [leaf_fo x h, deep_fo _ rfl]; rfl
theorem leaf_right (x : Nd) (h : x.kids = 0) : rightB [x] = kindB [x] (endsT [x]) 0 x := by
  unfold rightB fitsB
  rw [leaf_inO x h, leaf_deep x h]
  simp [kindsB, List.range, List.range.loop]
theorem leaf_ord (x y : Nd) (hx : x.kids = 0) (hy : y.kids = 0) (wx : x.bits < 2 ^ 64) (wy : y.bits < 2 ^ 64) : ordT [x] [y] = partB x y := by
  rw [leaf_fo x hx, leaf_fo y hy, ord_fo _ _ rfl rfl ?_ ?_]
  · simp only [Fo.cmp]
    by_cases z : partB x y = 0
    · rw [ite_z z, z]; rfl
    · rw [ite_nz z]
  · rw [← leaf_fo x hx]; intro z hz; obtain rfl := List.mem_singleton.1 hz; exact wx
  · rw [← leaf_fo y hy]; intro z hz; obtain rfl := List.mem_singleton.1 hz; exact wy
theorem real_right (a : Nat) : rightB [nR a] = decide (canonB a = a) := by
  rw [leaf_right _ rfl]
  simp [kindB, justB]
theorem real_part (x y : Nat) : partB (nR x) (nR y) = orderB x y := by
  unfold partB
  simp only [cmpI_self]
  rw [ite_z rfl, ite_z rfl]
  by_cases z : orderB x y = 0
  · rw [ite_z z, z]; exact isO_L.self _
  · rw [ite_nz z]
theorem real_ord (x y : Nat) (wx : x < 2 ^ 64) (wy : y < 2 ^ 64) : ordT [nR x] [nR y] = orderB x y := by
  rw [leaf_ord _ _ rfl rfl wx wy, real_part]
theorem real_same (x y : Nat) (wx : x < 2 ^ 64) (wy : y < 2 ^ 64) (cx : canonB x = x) (cy : canonB y = y) : sameT [nR x] [nR y] = decide (x = y) := by
  unfold sameT
  rw [leaf_inO _ rfl, real_ord x y wx wy, Bool.true_and, Bool.eq_iff_iff, beq_iff_eq, decide_eq_true_eq, orderB_zero, pos_canon x y wx wy, cx, cy]
theorem zero_bits (x : Nat) (wx : x < 2 ^ 64) (h : rg x = 0) : x = 0 ∨ x = 9223372036854775808 := by
  unfold rg at h
  omega
/-- What is left where sameness of reals and of terms differ. -/
theorem real_cases (x y : Nat) (wx : x < 2 ^ 64) (wy : y < 2 ^ 64) (cx : canonB x = x) (cy : canonB y = y) :
    sameB x y = decide (x = y) ∨ (x = NAN ∧ y = NAN) ∨ (x ≠ NAN ∧ ((x = 0 ∧ y = 9223372036854775808) ∨ (x = 9223372036854775808 ∧ y = 0))) := by
  by_cases e : x = y
  · subst e
    by_cases nx : isNone x
    · have hx : x = NAN := by rw [← cx]; exact nan_canon x nx
      exact .inr (.inl ⟨hx, hx⟩)
    · left
      rw [decide_eq_true rfl]
      exact (same_pos x x nx nx).2 (.inl rfl)
  · rw [decide_eq_false e]
    cases hs : sameB x y with
    | false => exact .inl rfl
    | true =>
      right; right
      obtain ⟨nx, ny, -⟩ := (same_key x y).1 hs
      have hx : x ≠ NAN := fun h => nx (by rw [h]; exact none_NAN)
      rcases (same_pos x y nx ny).1 hs with h | ⟨h1, h2⟩
      · have := (pos_canon x y wx wy).1 h
        rw [cx, cy] at this
        exact absurd this e
      · refine ⟨hx, ?_⟩
        rcases zero_bits x wx h1 with hx | hx <;> rcases zero_bits y wy h2 with hy | hy
        · exact absurd (hx.trans hy.symm) e
        · exact .inl ⟨hx, hy⟩
        · exact .inr ⟨hx, hy⟩
        · exact absurd (hx.trans hy.symm) e

theorem bits_a : bits .or .u64 0 9223372036854775808 = 9223372036854775808 := by decide +kernel
theorem bits_b : bits .or .u64 9223372036854775808 0 = 9223372036854775808 := by decide +kernel
theorem bits_c : bits .andNot .u64 9223372036854775808 9223372036854775808 = 0 := by decide +kernel
end Go.Proofs.YtieoiklgoeclaaaGreat
