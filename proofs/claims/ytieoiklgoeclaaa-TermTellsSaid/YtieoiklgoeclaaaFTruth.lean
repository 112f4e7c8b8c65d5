/-
  float's truths; comparing; whole numbers as reals.
-/
import Derived.Test.YtieoiklgoeclaaaFUnary
namespace Go.Proofs.Ytieoiklgoeclaaa
open Go.RowKit

theorem truth_two (K : Nat) (f : Nat → Nat → Bool) (hK : ∀ (cap : Array Value) (w : World), (callFunc K cap).run Try.prog w = .ok (.enter K cap) w)
    (hc : ∀ (w : World) (p q x y : Nat), w.cell? ⟨p, 0, none⟩ = some (.float .f64 x) → w.cell? ⟨q, 0, none⟩ = some (.float .f64 y) →
      Calls Try.prog K #[.pointer (some ⟨p, 0, none⟩), .pointer (some ⟨q, 0, none⟩)] w fun e w' => e = .returned (.bool (f x y)) ∧ Below w.heap.size w w')
    (w : World) (a b : Nat) :
    Calls Try.prog 56 #[.bool false, .func (Fn.func K) #[] #[.pointer (some ⟨w.heap.size, 0, none⟩), .pointer (some ⟨w.heap.size + 1, 0, none⟩)], .slice (some ⟨w.heap.size + 2, 0, none⟩) 2 2] (W2 w a b)
      fun e w' => e = .returned (.bool (!(noneB a || noneB b) && f a b)) ∧ Below w.heap.size w w' := by
  have hb := W2_below w a b
  have hg : w.heap.size + 2 < (W2 w a b).heap.size := by rw [W2_size]; omega
  have hle : w.heap.size ≤ (W2 w a b).heap.size := by rw [W2_size]; omega
  cases hn : (noneB a || noneB b) with
  | true =>
    obtain ⟨m, hm, hm2⟩ := two_bad hn
    refine (askT_bad (W2 w a b) false _ [a, b] (w.heap.size + 2) 2 (W2_nums w a b) hg (by simp) m hm hm2).mono fun e w' h => ⟨h.1, hb.trans (h.2.mono hle)⟩
  | false =>
    have ha : noneB a = false := (Bool.or_eq_false_iff.1 hn).1
    have hb2 : noneB b = false := (Bool.or_eq_false_iff.1 hn).2
    refine (askT_ok (W2 w a b) false (f a b) K _ [a, b] (w.heap.size + 2) 2 (W2_nums w a b) hg (by simp) (two_ok ha hb2) (hK _) ?_).mono fun e w' h => ⟨by rw [h.1]; simp, hb.trans (h.2.mono hle)⟩
    intro w1 h1
    exact hc w1 _ _ a b (by rw [h1.cell (p := ⟨w.heap.size, 0, none⟩) (by rw [W2_size]; show w.heap.size < _; omega)]; exact W2_fst w a b) (by rw [h1.cell (p := ⟨w.heap.size + 1, 0, none⟩) (by rw [W2_size]; show w.heap.size + 1 < _; omega)]; exact W2_snd w a b)

def orderIs (o : Ordering) (x y : Nat) : Bool := FloatKind.f64.format.order x y == some o
theorem orderIs_none (o : Ordering) (x y : Nat) (h : (noneB x || noneB y) = true) : orderIs o x y = false := by
  unfold orderIs
  show (Ieee.double.order x y == some o) = false
  rw [order_none x y (by rcases Bool.or_eq_true_iff.1 h with h | h; exact .inl (of_decide_eq_true h); exact .inr (of_decide_eq_true h))]
  rfl
theorem less_is (x y : Nat) : (!(noneB x || noneB y) && orderIs .lt x y) = lessB x y := by
  cases h : (noneB x || noneB y)
  · unfold orderIs lessB
    show (true && (Ieee.double.order x y == some .lt)) = decide (Ieee.double.order x y = some .lt)
    rw [Bool.true_and, Bool.eq_iff_iff, beq_iff_eq, decide_eq_true_eq]
  · unfold lessB
    rw [order_none x y (by rcases Bool.or_eq_true_iff.1 h with h | h; exact .inl (of_decide_eq_true h); exact .inr (of_decide_eq_true h))]
    rfl
theorem same_is (x y : Nat) : (!(noneB x || noneB y) && orderIs .eq x y) = sameB x y := by
  cases h : (noneB x || noneB y)
  · unfold orderIs sameB
    show (true && (Ieee.double.order x y == some .eq)) = decide (Ieee.double.order x y = some .eq)
    rw [Bool.true_and, Bool.eq_iff_iff, beq_iff_eq, decide_eq_true_eq]
  · unfold sameB
    rw [order_none x y (by rcases Bool.or_eq_true_iff.1 h with h | h; exact .inl (of_decide_eq_true h); exact .inr (of_decide_eq_true h))]
    rfl
theorem clo_same (w : World) (p q x y : Nat) (hp : w.cell? ⟨p, 0, none⟩ = some (.float .f64 x)) (hq : w.cell? ⟨q, 0, none⟩ = some (.float .f64 y)) :
    Calls Try.prog 57 #[.pointer (some ⟨p, 0, none⟩), .pointer (some ⟨q, 0, none⟩)] w fun e w' => e = .returned (.bool (orderIs .eq x y)) ∧ Below w.heap.size w w' := by
  go_enter Try.func57, Try.ntmps57
  go_wp2
  go_ret
  exact ⟨rfl, Below.refl _ _⟩
set_option maxRecDepth 100000 in
theorem same_any (w : World) (a b : Nat) : Calls Try.prog 25 #[.int .u64 a, .int .u64 b] w fun e w' => e = .returned (.bool (sameB a b)) ∧ Below w.heap.size w w' := by
  have hmf : ∀ (fn : Fn) (first cap : Array Value) (w : World), (Instr.makeFunc fn first cap).run Try.prog w = .ok (.func fn first cap) w := fun _ _ _ _ => rfl
  have hsf := store_float
  have hs := truth_two 57 (orderIs .eq) (fun cap w => callK 57 Try.f57 Try.func57 (by kernel_rfl) (by kernel_rfl) cap w) clo_same w a b
  rw [same_is] at hs
  unfold W2 at hs
  have HS := Lib.hid hs
  clear hs
  go_enter Try.func25, Try.ntmps25
  go_wp2_with fail
  refine (number_nat a _).mono ?_
  rintro e w' ⟨rfl, rfl⟩
  go_wp2_with fail
  refine (number_nat b _).mono ?_
  rintro e w' ⟨rfl, rfl⟩
  go_wp2_with fail
  refine HS.out.mono ?_
  rintro e w2 ⟨rfl, hb2⟩
  have HB2 := Lib.hid hb2
  clear hb2
  go_wp2_with fail
  go_ret
  exact ⟨rfl, HB2.out⟩
set_option maxRecDepth 100000 in
theorem right_any (w : World) (a : Nat) : Calls Try.prog 23 #[.int .u64 a] w fun e w' => e = .returned (.bool (decide (canonB a = a))) ∧ Below w.heap.size w w' := by
  have hs := canon_any w a
  obtain ⟨c, hc⟩ : ∃ c, c = canonB a := ⟨_, rfl⟩
  rw [← hc] at hs ⊢
  have he : ((c : Int) == (a : Int)) = decide (c = a) := by rw [Bool.eq_iff_iff, beq_iff_eq, decide_eq_true_eq]; omega
  have HC := Lib.hid hc
  clear hc
  go_enter Try.func23, Try.ntmps23
  go_wp2_with fail
  refine hs.mono ?_
  rintro e w2 ⟨rfl, hb2⟩
  have HB2 := Lib.hid hb2
  clear hb2 hs
  go_wp2_with fail
  go_ret
  exact ⟨rfl, HB2.out⟩

/-! ## cmp.Compare -/
def cmpF (x y : Nat) : Int := if noneB x then (if noneB y then 0 else -1) else if noneB y then 1 else if orderIs .lt x y then -1 else if orderIs .gt x y then 1 else 0
def cmpI (x y : Int) : Int := if x < y then -1 else if y < x then 1 else 0
theorem ret_i {a b : Int} (h : a = b) : Ending.returned (.int .i64 a) = .returned (.int .i64 b) := by rw [h]
theorem compareF_any (w : World) (x y : Nat) : Calls Try.prog 53 #[.float .f64 x, .float .f64 y] w fun e w' => e = .returned (.int .i64 (cmpF x y)) ∧ w = w' := by
  have c1 := cmpnan_any x w
  have c2 := cmpnan_any y w
  obtain ⟨m, hm⟩ : ∃ m, m = cmpF x y := ⟨_, rfl⟩
  rw [← hm]
  unfold cmpF orderIs at hm
  obtain ⟨n1, e1⟩ : ∃ n, n = noneB x := ⟨_, rfl⟩
  obtain ⟨n2, e2⟩ : ∃ n, n = noneB y := ⟨_, rfl⟩
  obtain ⟨b1, f1⟩ : ∃ n, (FloatKind.f64.format.order x y == some .lt) = n := ⟨_, rfl⟩
  obtain ⟨b2, f2⟩ : ∃ n, (FloatKind.f64.format.order x y == some .gt) = n := ⟨_, rfl⟩
  rw [f1, f2, ← e1, ← e2] at hm
  rw [← e1] at c1
  rw [← e2] at c2
  clear e1 e2
  have HM := Lib.hid hm
  clear hm
  cases n1 <;> cases n2 <;> cases b1 <;> cases b2
  all_goals
    go_enter Try.func53, Try.ntmps53
    go_wp2_with fail
    refine c1.mono ?_
    rintro e w' ⟨rfl, rfl⟩
    go_wp2_with fail
    refine c2.mono ?_
    rintro e w' ⟨rfl, rfl⟩
    clear c1 c2
    go_wp2_with fail
    go_ret
    exact ⟨ret_i (by rw [HM.out]; rfl), rfl⟩
theorem cmpnanI_any (x : Int) (w : World) : Calls Try.prog 83 #[.int .i64 x] w fun e w' => e = .returned (.bool false) ∧ w = w' := by
  have h : (x != x) = false := by simp
  go_enter Try.func83, Try.ntmps83
  go_wp2
  go_ret
  exact ⟨rfl, rfl⟩
theorem compareI_any (w : World) (x y : Int) : Calls Try.prog 55 #[.int .i64 x, .int .i64 y] w fun e w' => e = .returned (.int .i64 (cmpI x y)) ∧ w = w' := by
  have c1 := cmpnanI_any x w
  have c2 := cmpnanI_any y w
  obtain ⟨m, hm⟩ : ∃ m, m = cmpI x y := ⟨_, rfl⟩
  rw [← hm]
  unfold cmpI at hm
  by_cases h1 : x < y
  · rw [if_pos h1] at hm
    have HM := Lib.hid hm
    clear hm
    go_enter Try.func55, Try.ntmps55
    go_wp2_with fail
    refine c1.mono ?_
    rintro e w' ⟨rfl, rfl⟩
    go_wp2_with fail
    refine c2.mono ?_
    rintro e w' ⟨rfl, rfl⟩
    clear c1 c2
    go_wp2_with fail
    go_ret
    exact ⟨ret_i HM.out.symm, rfl⟩
  · rw [if_neg h1] at hm
    by_cases h2 : y < x
    · rw [if_pos h2] at hm
      have HM := Lib.hid hm
      clear hm
      go_enter Try.func55, Try.ntmps55
      go_wp2_with fail
      refine c1.mono ?_
      rintro e w' ⟨rfl, rfl⟩
      go_wp2_with fail
      refine c2.mono ?_
      rintro e w' ⟨rfl, rfl⟩
      clear c1 c2
      go_wp2_with fail
      go_ret
      exact ⟨ret_i HM.out.symm, rfl⟩
    · rw [if_neg h2] at hm
      have HM := Lib.hid hm
      clear hm
      go_enter Try.func55, Try.ntmps55
      go_wp2_with fail
      refine c1.mono ?_
      rintro e w' ⟨rfl, rfl⟩
      go_wp2_with fail
      refine c2.mono ?_
      rintro e w' ⟨rfl, rfl⟩
      clear c1 c2
      go_wp2_with fail
      go_ret
      exact ⟨ret_i HM.out.symm, rfl⟩
end Go.Proofs.Ytieoiklgoeclaaa
