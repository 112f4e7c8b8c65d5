/-
  The chapter's examples; Order as places tell.
-/
import Derived.Test.YtlgnkgcofdjamaaWhole
namespace Go.Proofs.Ytlgnkgcofdjamaa
open Go.RowKit

theorem places_lt (s t : Bool) (r q : Nat) (h : (if s then -(r : Int) else (r : Int)) < if t then -(q : Int) else (q : Int)) : (if s then -1 - (r : Int) else (r : Int)) < if t then -1 - (q : Int) else (q : Int) := by
  cases s <;> cases t <;> simp only [Bool.false_eq_true, if_false, if_true] at h ⊢ <;> omega
theorem wrapI_mk (s : Bool) (r : Nat) (h : r < 2 ^ 63) : wrapI (mk s r) = if s then (r : Int) - (2 ^ 63 : Int) else (r : Int) := by
  unfold wrapI mk
  rw [IntKind.wrap_i64]
  cases s
  · simp only [Bool.false_eq_true, if_false]; omega
  · simp only [if_true]; omega
theorem places_eq (s t : Bool) (r q : Nat) (h : (if s then -(r : Int) else (r : Int)) = if t then -(q : Int) else (q : Int)) :
    cmpI (if s then (r : Int) - (2 ^ 63 : Int) else (r : Int)) (if t then (q : Int) - (2 ^ 63 : Int) else (q : Int)) =
      if (if s then -1 - (r : Int) else (r : Int)) < (if t then -1 - (q : Int) else (q : Int)) then -1 else if (if s then -1 - (r : Int) else (r : Int)) = (if t then -1 - (q : Int) else (q : Int)) then 0 else 1 := by
  unfold cmpI
  cases s <;> cases t <;> simp only [Bool.false_eq_true, if_false, if_true] at h ⊢
  · rw [show r = q by omega]; simp
  · have h1 : r = 0 := by omega
    have h2 : q = 0 := by omega
    rw [h1, h2]; decide
  · have h1 : r = 0 := by omega
    have h2 : q = 0 := by omega
    rw [h1, h2]; decide
  · rw [show r = q by omega]; simp
theorem ordC_eq (a b : Nat) (ha : a < 2 ^ 64) (hb : b < 2 ^ 64) : ordC a b = orderB a b := by
  unfold ordC orderB
  by_cases na : isNone a
  · rw [show noneB a = true from decide_eq_true na, Bool.true_or, if_pos rfl]
    unfold cmpF pos
    rw [show noneB a = true from decide_eq_true na, if_pos na]
    by_cases nb : isNone b
    · rw [show noneB b = true from decide_eq_true nb, if_pos nb]
      simp
    · rw [show noneB b = false from decide_eq_false nb, if_neg nb]
      have h2 : rg b ≤ inf := by unfold isNone at nb; omega
      simp only [Bool.false_eq_true, if_false, if_true]
      rw [if_neg (by split <;> omega), if_neg (by split <;> omega)]
  · by_cases nb : isNone b
    · rw [show noneB b = true from decide_eq_true nb, Bool.or_true, if_pos rfl]
      unfold cmpF pos
      rw [show noneB b = true from decide_eq_true nb, if_pos nb, show noneB a = false from decide_eq_false na, if_neg na]
      have h2 : rg a ≤ inf := by unfold isNone at na; omega
      simp only [Bool.false_eq_true, if_false, if_true]
      rw [if_pos (by split <;> omega)]
    · rw [show noneB a = false from decide_eq_false na, show noneB b = false from decide_eq_false nb, Bool.or_self, if_neg (by simp)]
      have ea := mk_of a ha
      have eb := mk_of b hb
      have ra := rg_lt a
      have rb := rg_lt b
      have ho : ∀ o, orderIs o a b = (compare (key a) (key b) == o) := fun o => by
        unfold orderIs
        show (Ieee.double.order a b == some o) = _
        rw [order_some a b na nb]
        cases compare (key a) (key b) <;> cases o <;> rfl
      unfold ordIn cmpF
      rw [ho, ho, ho, show noneB a = false from decide_eq_false na, show noneB b = false from decide_eq_false nb]
      have pa : pos a = if sg a then -1 - (rg a : Int) else rg a := by unfold pos; rw [if_neg na]
      have pb : pos b = if sg b then -1 - (rg b : Int) else rg b := by unfold pos; rw [if_neg nb]
      have ka : key a = if sg a then -(rg a : Int) else rg a := rfl
      have kb : key b = if sg b then -(rg b : Int) else rg b := rfl
      rcases Int.lt_trichotomy (key a) (key b) with h | h | h
      · rw [cmp_lt h, if_pos (show pos a < pos b by rw [pa, pb]; rw [ka, kb] at h; exact places_lt _ _ _ _ h)]
        rfl
      · rw [cmp_eq h]
        show cmpI (wrapI a) (wrapI b) = _
        have wa := wrapI_mk (sg a) (rg a) ra
        have wb := wrapI_mk (sg b) (rg b) rb
        rw [ea] at wa
        rw [eb] at wb
        rw [ka, kb] at h
        rw [wa, wb, pa, pb]
        exact places_eq _ _ _ _ h
      · have hp : pos b < pos a := by rw [pa, pb]; rw [ka, kb] at h; exact places_lt _ _ _ _ h
        have hR : (if pos a < pos b then (-1 : Int) else if pos a = pos b then 0 else 1) = 1 := by rw [if_neg (by omega), if_neg (by omega)]
        rw [cmp_gt h, hR]
        rfl
theorem order_at (w : World) (a b : Nat) (ha : a < 2 ^ 64) (hb : b < 2 ^ 64) : Calls Try.prog 30 #[.int .u64 a, .int .u64 b] w fun e w' => e = .returned (.int .i64 (orderB a b)) ∧ Below w.heap.size w w' := by
  have := order_any w a b
  rwa [ordC_eq a b ha hb] at this

set_option maxRecDepth 100000 in
theorem awake_any (w : World) : Calls Try.prog 34 #[] w fun e w' => e = .returned (.bool true) ∧ Below w.heap.size w w' := by
  have k1 : ∀ W, Calls Try.prog 8 #[.int .u64 13826050856027422720] W fun e w' => e = .returned (.tuple #[.int .i64 0, .bool true]) ∧ W = w' :=
    fun W => int_in W 13826050856027422720 0 (by kernel_rfl) (by kernel_rfl) (by kernel_rfl)
  have k2 : ∀ W, Calls Try.prog 8 #[.int .u64 4890909195324358656] W fun e w' => e = .returned (.tuple #[.int .i64 0, .bool false]) ∧ W = w' :=
    fun W => int_high W 4890909195324358656 (by kernel_rfl) (by kernel_rfl)
  have k3 : ∀ W, Calls Try.prog 16 #[.int .u64 4607182418800017408, .int .u64 4368491638549381120] W fun e w' => e = .returned (.int .u64 4607182418800017408) ∧ Below W.heap.size W w' := fun W => by
    have := add_any W 4607182418800017408 4368491638549381120
    rw [show addB 4607182418800017408 4368491638549381120 = 4607182418800017408 by kernel_rfl] at this
    exact this
  have k4 : ∀ W, Calls Try.prog 16 #[.int .u64 4607182418800017408, .int .u64 4370743438363066368] W fun e w' => e = .returned (.int .u64 4607182418800017409) ∧ Below W.heap.size W w' := fun W => by
    have := add_any W 4607182418800017408 4370743438363066368
    rw [show addB 4607182418800017408 4370743438363066368 = 4607182418800017409 by kernel_rfl] at this
    exact this
  have k5 : ∀ W, Calls Try.prog 22 #[.int .u64 4607182418800017408, .int .u64 9223372036854775808] W fun e w' => e = .returned (.int .u64 18442240474082181120) ∧ Below W.heap.size W w' := fun W => by
    have := div_any W 4607182418800017408 9223372036854775808
    rw [show divB 4607182418800017408 9223372036854775808 = 18442240474082181120 by kernel_rfl] at this
    exact this
  have k6 : ∀ W, Calls Try.prog 18 #[.int .u64 9218868437227405312, .int .u64 9218868437227405312] W fun e w' => e = .returned (.int .u64 9221120237041090560) ∧ Below W.heap.size W w' := fun W => by
    have := sub_any W 9218868437227405312 9218868437227405312
    rw [show subB 9218868437227405312 9218868437227405312 = 9221120237041090560 by kernel_rfl] at this
    exact this
  have k7 : ∀ W, Calls Try.prog 30 #[.int .u64 9223372036854775808, .int .u64 0] W fun e w' => e = .returned (.int .i64 (-1)) ∧ Below W.heap.size W w' := fun W => by
    have := order_any W 9223372036854775808 0
    rw [show ordC 9223372036854775808 0 = -1 by kernel_rfl] at this
    exact this
  have k8 : ∀ W, Calls Try.prog 28 #[.int .u64 9223372036854775808, .int .u64 0] W fun e w' => e = .returned (.bool true) ∧ Below W.heap.size W w' := fun W => by
    have := same_any W 9223372036854775808 0
    rw [show sameB 9223372036854775808 0 = true by kernel_rfl] at this
    exact this
  have K1 := Lib.hid k1
  have K2 := Lib.hid k2
  have K3 := Lib.hid k3
  have K4 := Lib.hid k4
  have K5 := Lib.hid k5
  have K6 := Lib.hid k6
  have K7 := Lib.hid k7
  have K8 := Lib.hid k8
  clear k1 k2 k3 k4 k5 k6 k7 k8
  go_enter Try.func34, Try.ntmps34
  go_wp2_with fail
  refine (K1.out _).mono ?_
  rintro e w' ⟨rfl, rfl⟩
  go_wp2_with fail
  refine (K2.out _).mono ?_
  rintro e w' ⟨rfl, rfl⟩
  go_wp2_with fail
  refine (K3.out _).mono ?_
  rintro e w1 ⟨rfl, h1⟩
  have H1 := Lib.hid h1
  clear h1
  go_wp2_with fail
  refine (K4.out _).mono ?_
  rintro e w2 ⟨rfl, h2⟩
  have H2 := Lib.hid (H1.out.trans (h2.mono H1.out.size))
  clear h2
  go_wp2_with fail
  refine (K5.out _).mono ?_
  rintro e w3 ⟨rfl, h3⟩
  have H3 := Lib.hid (H2.out.trans (h3.mono H2.out.size))
  clear h3
  go_wp2_with fail
  refine (K6.out _).mono ?_
  rintro e w4 ⟨rfl, h4⟩
  have H4 := Lib.hid (H3.out.trans (h4.mono H3.out.size))
  clear h4
  go_wp2_with fail
  refine (K7.out _).mono ?_
  rintro e w5 ⟨rfl, h5⟩
  have H5 := Lib.hid (H4.out.trans (h5.mono H4.out.size))
  clear h5
  go_wp2_with fail
  refine (K8.out _).mono ?_
  rintro e w6 ⟨rfl, h6⟩
  have H6 := Lib.hid (H5.out.trans (h6.mono H5.out.size))
  clear h6
  go_wp2_with fail
  go_ret
  exact ⟨rfl, H6.out⟩
end Go.Proofs.Ytlgnkgcofdjamaa
