/-
  float's truths; comparing; whole numbers as reals.
-/
import Derived.Test.YtieoiklgoeclaaaGreatFUnary
namespace Go.Proofs.YtieoiklgoeclaaaGreat
open Go.RowKit

def orderIs (o : Ordering) (x y : Nat) : Bool := FloatKind.f64.format.order x y == some o
theorem orderIs_none (o : Ordering) (x y : Nat) (h : (noneB x || noneB y) = true) : orderIs o x y = false := by
  unfold orderIs
  show (Ieee.double.order x y == some o) = false
  rw [order_none x y (by rcases Bool.or_eq_true_iff.1 h with h | h; exact .inl (of_decide_eq_true h); exact .inr (of_decide_eq_true h))]
  rfl
theorem less_is (x y : Nat) : (!(noneB x || noneB y) && orderIs .lt x y) = lessB x y := by
  cases h : (noneB x || noneB y)
  · unfold orderIs lessB
    show (true && (Ieee.double.order x y == some .lt)) = decide (Ieee.double.order x y = some .lt)
    rw [Bool.true_and, Bool.eq_iff_iff, beq_iff_eq, decide_eq_true_eq]
  · unfold lessB
    rw [order_none x y (by rcases Bool.or_eq_true_iff.1 h with h | h; exact .inl (of_decide_eq_true h); exact .inr (of_decide_eq_true h))]
    rfl
theorem same_is (x y : Nat) : (!(noneB x || noneB y) && orderIs .eq x y) = sameB x y := by
  cases h : (noneB x || noneB y)
  · unfold orderIs sameB
    show (true && (Ieee.double.order x y == some .eq)) = decide (Ieee.double.order x y = some .eq)
    rw [Bool.true_and, Bool.eq_iff_iff, beq_iff_eq, decide_eq_true_eq]
  · unfold sameB
    rw [order_none x y (by rcases Bool.or_eq_true_iff.1 h with h | h; exact .inl (of_decide_eq_true h); exact .inr (of_decide_eq_true h))]
    rfl
set_option maxRecDepth 100000 in
theorem right_any (w : World) (a : Nat) : Calls Tryz.prog 84 #[.int .u64 a] w fun e w' => e = .returned (.bool (decide (canonB a = a))) ∧ Below w.heap.size w w' := by
  have hs := canon_any w a
  obtain ⟨c, hc⟩ : ∃ c, c = canonB a := ⟨_, rfl⟩
  rw [← hc] at hs ⊢
  have he : ((c : Int) == (a : Int)) = decide (c = a) := by rw [Bool.eq_iff_iff, beq_iff_eq, decide_eq_true_eq]; omega
  have HC := Lib.hid hc
  clear hc
  go_enter Tryz.func84, Tryz.ntmps84
  go_wp2_with fail
  refine hs.mono ?_
  rintro e w2 ⟨rfl, hb2⟩
  have HB2 := Lib.hid hb2
  clear hb2 hs
  go_wp2_with fail
  go_ret
  exact ⟨rfl, HB2.out⟩

/-! ## cmp.Compare -/
def cmpF (x y : Nat) : Int := if noneB x then (if noneB y then 0 else -1) else if noneB y then 1 else if orderIs .lt x y then -1 else if orderIs .gt x y then 1 else 0
def cmpI (x y : Int) : Int := if x < y then -1 else if y < x then 1 else 0
theorem ret_i {a b : Int} (h : a = b) : Ending.returned (.int .i64 a) = .returned (.int .i64 b) := by rw [h]
theorem compareF_any (w : World) (x y : Nat) : Calls Tryz.prog 77 #[.float .f64 x, .float .f64 y] w fun e w' => e = .returned (.int .i64 (cmpF x y)) ∧ w = w' := by
  have c1 := cmpnan_any x w
  have c2 := cmpnan_any y w
  obtain ⟨m, hm⟩ : ∃ m, m = cmpF x y := ⟨_, rfl⟩
  rw [← hm]
  unfold cmpF orderIs at hm
  obtain ⟨n1, e1⟩ : ∃ n, n = noneB x := ⟨_, rfl⟩
  obtain ⟨n2, e2⟩ : ∃ n, n = noneB y := ⟨_, rfl⟩
  obtain ⟨b1, f1⟩ : ∃ n, (FloatKind.f64.format.order x y == some .lt) = n := ⟨_, rfl⟩
  obtain ⟨b2, f2⟩ : ∃ n, (FloatKind.f64.format.order x y == some .gt) = n := ⟨_, rfl⟩
  rw [f1, f2, ← e1, ← e2] at hm
  rw [← e1] at c1
  rw [← e2] at c2
  clear e1 e2
  have HM := Lib.hid hm
  clear hm
  cases n1 <;> cases n2 <;> cases b1 <;> cases b2
  all_goals
    go_enter Tryz.func77, Tryz.ntmps77
    go_wp2_with fail
    refine c1.mono ?_
    rintro e w' ⟨rfl, rfl⟩
    go_wp2_with fail
    refine c2.mono ?_
    rintro e w' ⟨rfl, rfl⟩
    clear c1 c2
    go_wp2_with fail
    go_ret
    exact ⟨ret_i (by rw [HM.out]; rfl), rfl⟩
theorem cmpnanI_any (x : Int) (w : World) : Calls Tryz.prog 74 #[.int .i64 x] w fun e w' => e = .returned (.bool false) ∧ w = w' := by
  have h : (x != x) = false := by simp
  go_enter Tryz.func74, Tryz.ntmps74
  go_wp2
  go_ret
  exact ⟨rfl, rfl⟩
theorem compareI_any (w : World) (x y : Int) : Calls Tryz.prog 59 #[.int .i64 x, .int .i64 y] w fun e w' => e = .returned (.int .i64 (cmpI x y)) ∧ w = w' := by
  have c1 := cmpnanI_any x w
  have c2 := cmpnanI_any y w
  obtain ⟨m, hm⟩ : ∃ m, m = cmpI x y := ⟨_, rfl⟩
  rw [← hm]
  unfold cmpI at hm
  by_cases h1 : x < y
  · rw [if_pos h1] at hm
    have HM := Lib.hid hm
    clear hm
    go_enter Tryz.func59, Tryz.ntmps59
    go_wp2_with fail
    refine c1.mono ?_
    rintro e w' ⟨rfl, rfl⟩
    go_wp2_with fail
    refine c2.mono ?_
    rintro e w' ⟨rfl, rfl⟩
    clear c1 c2
    go_wp2_with fail
    go_ret
    exact ⟨ret_i HM.out.symm, rfl⟩
  · rw [if_neg h1] at hm
    by_cases h2 : y < x
    · rw [if_pos h2] at hm
      have HM := Lib.hid hm
      clear hm
      go_enter Tryz.func59, Tryz.ntmps59
      go_wp2_with fail
      refine c1.mono ?_
      rintro e w' ⟨rfl, rfl⟩
      go_wp2_with fail
      refine c2.mono ?_
      rintro e w' ⟨rfl, rfl⟩
      clear c1 c2
      go_wp2_with fail
      go_ret
      exact ⟨ret_i HM.out.symm, rfl⟩
    · rw [if_neg h2] at hm
      have HM := Lib.hid hm
      clear hm
      go_enter Tryz.func59, Tryz.ntmps59
      go_wp2_with fail
      refine c1.mono ?_
      rintro e w' ⟨rfl, rfl⟩
      go_wp2_with fail
      refine c2.mono ?_
      rintro e w' ⟨rfl, rfl⟩
      clear c1 c2
      go_wp2_with fail
      go_ret
      exact ⟨ret_i HM.out.symm, rfl⟩
end Go.Proofs.YtieoiklgoeclaaaGreat
