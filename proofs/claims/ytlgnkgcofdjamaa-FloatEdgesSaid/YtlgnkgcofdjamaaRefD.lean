/-
  The document's own float: Less, Same, Order, Of, Mul, by their contracts.
-/
import Derived.Test.YtlgnkgcofdjamaaRounded
import Derived.Test.YtlgnkgcofdjamaaRefC
namespace Go.Proofs.Ytlgnkgcofdjamaa
open Go.RowKit

set_option maxRecDepth 100000 in
theorem rless_any (w : World) (a b : Nat) (ha : a < 2 ^ 64) (hb : b < 2 ^ 64) : Calls Try.prog 27 #[.int .u64 a, .int .u64 b] w fun e w' => e = .returned (.bool (lessB a b)) ∧ w = w' := by
  have hna := rnone_any w a ha
  have hnb := rnone_any w b hb
  by_cases na : isNone a
  · rw [decide_eq_true na] at hna
    rw [less_none a b (.inl na)]
    go_enter Try.func27, Try.ntmps27
    go_wp2_with fail
    refine hna.mono ?_
    rintro e w' ⟨rfl, rfl⟩
    go_wp2_with fail
    go_ret
    exact ⟨rfl, rfl⟩
  by_cases nb : isNone b
  · rw [decide_eq_false na] at hna
    rw [decide_eq_true nb] at hnb
    rw [less_none a b (.inr nb)]
    go_enter Try.func27, Try.ntmps27
    go_wp2_with fail
    refine hna.mono ?_
    rintro e w' ⟨rfl, rfl⟩
    go_wp2_with fail
    refine hnb.mono ?_
    rintro e w' ⟨rfl, rfl⟩
    go_wp2_with fail
    go_ret
    exact ⟨rfl, rfl⟩
  rw [decide_eq_false na] at hna
  rw [decide_eq_false nb] at hnb
  have hpa := place_any w a ha
  have hpb := place_any w b hb
  have hor := or_zero a b ha hb
  have hz := bne_int (rg (a ||| b))
  rw [less_plc a b na nb]
  have hd : decide (rg (a ||| b) ≠ 0) = !decide (rg (a ||| b) = 0) := by by_cases h : rg (a ||| b) = 0 <;> simp [h]
  rw [hd] at hz
  generalize decide (rg (a ||| b) = 0) = z at *
  generalize rg (a ||| b) = r at *
  generalize plc a = p at *
  generalize plc b = q at *
  clear na nb hd
  by_cases hpq : p < q
  · have i1 : (p : Int) < (q : Int) := by omega
    rw [decide_eq_true hpq]
    clear hpq
    go_enter Try.func27, Try.ntmps27
    go_wp2_with fail
    refine hna.mono ?_
    rintro e w' ⟨rfl, rfl⟩
    go_wp2_with fail
    refine hnb.mono ?_
    rintro e w' ⟨rfl, rfl⟩
    go_wp2_with fail
    refine hpa.mono ?_
    rintro e w' ⟨rfl, rfl⟩
    go_wp2_with fail
    refine hpb.mono ?_
    rintro e w' ⟨rfl, rfl⟩
    go_wp2_with fail
    go_ret
    exact ⟨by rw [Bool.true_and, ← hz]; rfl, rfl⟩
  · rw [decide_eq_false hpq]
    have i2 : ¬ (p : Int) < (q : Int) := by omega
    clear hpq
    go_enter Try.func27, Try.ntmps27
    go_wp2_with fail
    refine hna.mono ?_
    rintro e w' ⟨rfl, rfl⟩
    go_wp2_with fail
    refine hnb.mono ?_
    rintro e w' ⟨rfl, rfl⟩
    go_wp2_with fail
    refine hpa.mono ?_
    rintro e w' ⟨rfl, rfl⟩
    go_wp2_with fail
    refine hpb.mono ?_
    rintro e w' ⟨rfl, rfl⟩
    go_wp2_with fail
    go_ret
    exact ⟨rfl, rfl⟩
set_option maxRecDepth 100000 in
theorem rsame_any (w : World) (a b : Nat) (ha : a < 2 ^ 64) (hb : b < 2 ^ 64) : Calls Try.prog 29 #[.int .u64 a, .int .u64 b] w fun e w' => e = .returned (.bool (sameB a b)) ∧ w = w' := by
  have hna := rnone_any w a ha
  have hnb := rnone_any w b hb
  by_cases na : isNone a
  · rw [decide_eq_true na] at hna
    rw [same_none a b (.inl na)]
    go_enter Try.func29, Try.ntmps29
    go_wp2_with fail
    refine hna.mono ?_
    rintro e w' ⟨rfl, rfl⟩
    go_wp2_with fail
    go_ret
    exact ⟨rfl, rfl⟩
  by_cases nb : isNone b
  · rw [decide_eq_false na] at hna
    rw [decide_eq_true nb] at hnb
    rw [same_none a b (.inr nb)]
    go_enter Try.func29, Try.ntmps29
    go_wp2_with fail
    refine hna.mono ?_
    rintro e w' ⟨rfl, rfl⟩
    go_wp2_with fail
    refine hnb.mono ?_
    rintro e w' ⟨rfl, rfl⟩
    go_wp2_with fail
    go_ret
    exact ⟨rfl, rfl⟩
  rw [decide_eq_false na] at hna
  rw [decide_eq_false nb] at hnb
  have hor := or_zero a b ha hb
  have hz := beq_dec (rg (a ||| b)) 0
  have hab := beq_dec a b
  rw [same_plc a b ha hb na nb]
  rw [Int.natCast_zero] at hz
  generalize decide (rg (a ||| b) = 0) = z at *
  generalize rg (a ||| b) = r at *
  generalize decide (a = b) = t at *
  clear na nb
  cases t
  · go_enter Try.func29, Try.ntmps29
    go_wp2_with fail
    refine hna.mono ?_
    rintro e w' ⟨rfl, rfl⟩
    go_wp2_with fail
    refine hnb.mono ?_
    rintro e w' ⟨rfl, rfl⟩
    go_wp2_with fail
    go_ret
    exact ⟨by rw [Bool.false_or, ← hz]; rfl, rfl⟩
  · go_enter Try.func29, Try.ntmps29
    go_wp2_with fail
    refine hna.mono ?_
    rintro e w' ⟨rfl, rfl⟩
    go_wp2_with fail
    refine hnb.mono ?_
    rintro e w' ⟨rfl, rfl⟩
    go_wp2_with fail
    go_ret
    exact ⟨rfl, rfl⟩
theorem canon_lt (a : Nat) (ha : a < 2 ^ 64) : canonB a < 2 ^ 64 := by
  unfold canonB NAN
  split <;> omega
set_option maxRecDepth 100000 in
theorem rorder_any (w : World) (a b : Nat) (ha : a < 2 ^ 64) (hb : b < 2 ^ 64) : Calls Try.prog 31 #[.int .u64 a, .int .u64 b] w fun e w' => e = .returned (.int .i64 (orderB a b)) ∧ w = w' := by
  have hca := rcanon_any w a ha
  have hcb := rcanon_any w b hb
  have hpa := place_any w _ (canon_lt a ha)
  have hpb := place_any w _ (canon_lt b hb)
  rw [order_plc]
  generalize canonB a = x at *
  generalize canonB b = y at *
  generalize plc x = p at *
  generalize plc y = q at *
  by_cases h1 : p < q
  · have i1 : (p : Int) < (q : Int) := by omega
    rw [if_pos h1]
    go_enter Try.func31, Try.ntmps31
    go_wp2_with fail
    refine hca.mono ?_
    rintro e w' ⟨rfl, rfl⟩
    go_wp2_with fail
    refine hpa.mono ?_
    rintro e w' ⟨rfl, rfl⟩
    go_wp2_with fail
    refine hcb.mono ?_
    rintro e w' ⟨rfl, rfl⟩
    go_wp2_with fail
    refine hpb.mono ?_
    rintro e w' ⟨rfl, rfl⟩
    go_wp2_with fail
    go_ret
    exact ⟨rfl, rfl⟩
  rw [if_neg h1]
  have i1 : ¬ (p : Int) < (q : Int) := by omega
  by_cases h2 : q < p
  · have i2 : (q : Int) < (p : Int) := by omega
    rw [if_pos h2]
    go_enter Try.func31, Try.ntmps31
    go_wp2_with fail
    refine hca.mono ?_
    rintro e w' ⟨rfl, rfl⟩
    go_wp2_with fail
    refine hpa.mono ?_
    rintro e w' ⟨rfl, rfl⟩
    go_wp2_with fail
    refine hcb.mono ?_
    rintro e w' ⟨rfl, rfl⟩
    go_wp2_with fail
    refine hpb.mono ?_
    rintro e w' ⟨rfl, rfl⟩
    go_wp2_with fail
    go_ret
    exact ⟨rfl, rfl⟩
  · have i2 : ¬ (q : Int) < (p : Int) := by omega
    rw [if_neg h2]
    go_enter Try.func31, Try.ntmps31
    go_wp2_with fail
    refine hca.mono ?_
    rintro e w' ⟨rfl, rfl⟩
    go_wp2_with fail
    refine hpa.mono ?_
    rintro e w' ⟨rfl, rfl⟩
    go_wp2_with fail
    refine hcb.mono ?_
    rintro e w' ⟨rfl, rfl⟩
    go_wp2_with fail
    refine hpb.mono ?_
    rintro e w' ⟨rfl, rfl⟩
    go_wp2_with fail
    go_ret
    exact ⟨rfl, rfl⟩
set_option maxRecDepth 100000 in
theorem rounded_zero (w : World) (neg : Bool) (E : Int) : Calls Try.prog 46 #[.agg #[.bool neg, .int .u64 0, .int .u64 0, .int .i64 E, .bool false]] w fun e w' => e = .returned (.int .u64 (mk neg 0)) ∧ Below w.heap.size w w' := by
  have hs : ∀ W, Calls Try.prog 50 #[.bool neg, .int .u64 0] W fun e w' => e = .returned (.int .u64 (mk neg 0)) ∧ W = w' := fun W => signed_any W neg 0 (by decide)
  have hb : Below w.heap.size w (w.alloc (.cells #[.bool neg, .int .u64 0, .int .u64 0, .int .i64 E, .bool false] 41)) := (Below.refl _ _).alloc (Nat.le_refl _) _
  have HB := Lib.hid hb
  have HS := Lib.hid hs
  clear hb hs
  go_enter Try.func46, Try.ntmps46
  go_wp2_with fail
  refine (HS.out _).mono ?_
  rintro e w' ⟨rfl, rfl⟩
  go_wp2_with fail
  go_ret
  exact ⟨rfl, HB.out⟩
/-- Rounding, of nought too. -/
theorem rounded_all (w : World) (neg : Bool) (hi lo : Nat) (E : Int) (more : Bool) (h1 : hi < 2 ^ 64) (h2 : lo < 2 ^ 64) (hE1 : -10000 ≤ E) (hE2 : E ≤ 10000) (hm : more = true → 2 ^ 53 ≤ W128 hi lo) :
    Calls Try.prog 46 #[.agg #[.bool neg, .int .u64 hi, .int .u64 lo, .int .i64 E, .bool more]] w fun e w' => e = .returned (.int .u64 (near neg (W128 hi lo) E more)) ∧ Below w.heap.size w w' := by
  by_cases h0 : W128 hi lo = 0
  · have hf : more = false := by
      cases more with
      | false => rfl
      | true => have := hm rfl; omega
    subst hf
    rw [h0]
    unfold W128 at h0
    obtain rfl : hi = 0 := by omega
    obtain rfl : lo = 0 := by omega
    have e : near neg 0 E false = mk neg 0 := by
      unfold near
      simp only [Bool.false_eq_true, if_false]
      rw [nearest_zero]
    rw [e]
    exact rounded_zero w neg E
  · exact rounded_any w neg hi lo E more h1 h2 hE1 hE2 h0 hm
set_option maxRecDepth 100000 in
theorem rof_any (w : World) (n : Int) (h1 : -9223372036854775808 ≤ n) (h2 : n < 9223372036854775808) : Calls Try.prog 33 #[.int .i64 n] w fun e w' => e = .returned (.int .u64 (ofB n)) ∧ Below w.heap.size w w' := by
  have hr := rounded_all w (decide (n < 0)) 0 n.natAbs 0 false (by decide) (by omega) (by omega) (by omega) (fun h => by cases h)
  have e1 : near (decide (n < 0)) (W128 0 n.natAbs) 0 false = ofB n := by
    unfold near ofB W128
    simp
  rw [e1, Int.natCast_zero] at hr
  generalize ofB n = q at *
  clear e1
  by_cases h : n < 0
  · rw [decide_eq_true h] at hr
    have hw : IntKind.u64.wrap (wrap64 (-n)) = ((n.natAbs : Nat) : Int) := by
      unfold wrap64
      rw [IntKind.wrap_u64]; omega
    have HR := Lib.hid hr
    clear hr
    go_enter Try.func33, Try.ntmps33
    go_wp2_with fail
    refine HR.out.mono ?_
    rintro e w' ⟨rfl, hb⟩
    have HB := Lib.hid hb
    clear hb
    go_wp2_with fail
    go_ret
    exact ⟨rfl, HB.out⟩
  · rw [decide_eq_false h] at hr
    obtain ⟨m, rfl⟩ : ∃ m : Nat, n = (m : Int) := ⟨n.toNat, by omega⟩
    rw [Int.natAbs_natCast] at hr
    have HR := Lib.hid hr
    clear hr
    go_enter Try.func33, Try.ntmps33
    go_wp2_with fail
    refine HR.out.mono ?_
    rintro e w' ⟨rfl, hb⟩
    have HB := Lib.hid hb
    clear hb
    go_wp2_with fail
    go_ret
    exact ⟨rfl, HB.out⟩
theorem sign_ne (a b : Nat) (ha : a < 2 ^ 64) (hb : b < 2 ^ 64) : ((a : Int) / 9223372036854775808 != (b : Int) / 9223372036854775808) = (sg a ^^ sg b) := by
  unfold sg
  have h1 : a / 2 ^ 63 = 0 ∨ a / 2 ^ 63 = 1 := by omega
  have h2 : b / 2 ^ 63 = 0 ∨ b / 2 ^ 63 = 1 := by omega
  have e1 : (a : Int) / 9223372036854775808 = ((a / 2 ^ 63 : Nat) : Int) := by omega
  have e2 : (b : Int) / 9223372036854775808 = ((b / 2 ^ 63 : Nat) : Int) := by omega
  rw [e1, e2]
  rcases h1 with h1 | h1 <;> rcases h2 with h2 | h2 <;> rw [h1, h2] <;> rfl
theorem beq_inf (a : Nat) : (((rg a : Nat) : Int) == 9218868437227405312) = decide (rg a = inf) := by
  rw [Bool.eq_iff_iff, beq_iff_eq, decide_eq_true_eq]; unfold inf; omega
theorem beq_zero (a : Nat) : (((rg a : Nat) : Int) == 0) = decide (rg a = 0) := by
  rw [Bool.eq_iff_iff, beq_iff_eq, decide_eq_true_eq]; omega
theorem open_bounds (a : Nat) (h : rg a < inf) : -1074 ≤ pl a ∧ pl a ≤ 971 ∧ mg a < 9007199254740992 := ⟨pl_low a, pl_high a h, mg_lt a⟩
set_option maxRecDepth 100000 in
set_option maxHeartbeats 1000000 in
theorem rmul_any (w : World) (a b : Nat) (ha : a < 2 ^ 64) (hb : b < 2 ^ 64) : Calls Try.prog 21 #[.int .u64 a, .int .u64 b] w fun e w' => e = .returned (.int .u64 (mulB a b)) ∧ Below w.heap.size w w' := by
  have hna := rnone_any w a ha
  have hnb := rnone_any w b hb
  have hs := sign_ne a b ha hb
  have hra := andNot_sign a ha
  have hrb := andNot_sign b hb
  have ia := beq_inf a
  have ib := beq_inf b
  have za := beq_zero a
  have zb := beq_zero b
  by_cases na : isNone a
  · rw [decide_eq_true na] at hna
    have hv : mulB a b = NAN := by unfold mulB; rw [mul_none a b (.inl na)]; rfl
    rw [hv]
    clear ia ib za zb hs na hv
    generalize rg a = p at *
    generalize rg b = q at *
    go_enter Try.func21, Try.ntmps21
    go_wp2_with fail
    refine hna.mono ?_
    rintro e w' ⟨rfl, rfl⟩
    go_wp2_with fail
    go_ret
    exact ⟨rfl, Below.refl _ _⟩
  by_cases nb : isNone b
  · rw [decide_eq_false na] at hna
    rw [decide_eq_true nb] at hnb
    have hv : mulB a b = NAN := by unfold mulB; rw [mul_none a b (.inr nb)]; rfl
    rw [hv]
    clear ia ib za zb hs na nb hv
    generalize rg a = p at *
    generalize rg b = q at *
    go_enter Try.func21, Try.ntmps21
    go_wp2_with fail
    refine hna.mono ?_
    rintro e w' ⟨rfl, rfl⟩
    go_wp2_with fail
    refine hnb.mono ?_
    rintro e w' ⟨rfl, rfl⟩
    go_wp2_with fail
    go_ret
    exact ⟨rfl, Below.refl _ _⟩
  rw [decide_eq_false na] at hna
  rw [decide_eq_false nb] at hnb
  have la : rg a ≤ inf := by unfold isNone at na; omega
  have lb : rg b ≤ inf := by unfold isNone at nb; omega
  by_cases hi : rg a = inf ∨ rg b = inf
  · have hv := mulB_inf a b (by omega)
    have hsi : ∀ W, Calls Try.prog 50 #[.bool (sg a ^^ sg b), .int .u64 9218868437227405312] W fun e w' => e = .returned (.int .u64 (mk (sg a ^^ sg b) inf)) ∧ W = w' := fun W => signed_any W _ 9218868437227405312 (by decide)
    have HSI := Lib.hid hsi
    have h0 : ¬ inf = 0 := by decide
    have cases4 : (decide (rg a = inf) = true ∧ decide (rg a = 0) = false ∧ decide (rg b = 0) = true ∧ mulB a b = NAN) ∨ (decide (rg b = inf) = true ∧ decide (rg b = 0) = false ∧ decide (rg a = inf) = false ∧ decide (rg a = 0) = true ∧ mulB a b = NAN) ∨
        (decide (rg a = 0) = false ∧ decide (rg b = 0) = false ∧ (decide (rg a = inf) = true ∨ decide (rg a = inf) = false ∧ decide (rg b = inf) = true) ∧ mulB a b = mk (sg a ^^ sg b) inf) := by
      by_cases z1 : rg a = 0
      · rw [if_pos (.inl z1)] at hv
        exact .inr (.inl ⟨by simp; omega, by simp; omega, by simp; omega, by simp [z1], hv⟩)
      · by_cases z2 : rg b = 0
        · rw [if_pos (.inr z2)] at hv
          exact .inl ⟨by simp; omega, by simp [z1], by simp [z2], hv⟩
        · rw [if_neg (by omega)] at hv
          refine .inr (.inr ⟨by simp [z1], by simp [z2], ?_, hv⟩)
          by_cases e1 : rg a = inf
          · exact .inl (by simp [e1])
          · exact .inr ⟨by simp [e1], by simp; omega⟩
    clear hv hsi la lb hi na nb h0
    generalize decide (rg a = inf) = x1 at *
    generalize decide (rg b = inf) = x2 at *
    generalize decide (rg a = 0) = x3 at *
    generalize decide (rg b = 0) = x4 at *
    generalize (sg a ^^ sg b) = s at *
    generalize mulB a b = v at *
    generalize rg a = p at *
    generalize rg b = q at *
    rcases cases4 with ⟨rfl, rfl, rfl, rfl⟩ | ⟨rfl, rfl, rfl, rfl, rfl⟩ | ⟨rfl, rfl, rfl | ⟨rfl, rfl⟩, rfl⟩
    · go_enter Try.func21, Try.ntmps21
      go_wp2_with (first | ((with_reducible refine hna.mono ?_); rintro e w' ⟨rfl, rfl⟩) | ((with_reducible refine hnb.mono ?_); rintro e w' ⟨rfl, rfl⟩))
      all_goals
        go_ret
        exact ⟨rfl, Below.refl _ _⟩
    · go_enter Try.func21, Try.ntmps21
      go_wp2_with (first | ((with_reducible refine hna.mono ?_); rintro e w' ⟨rfl, rfl⟩) | ((with_reducible refine hnb.mono ?_); rintro e w' ⟨rfl, rfl⟩))
      all_goals
        go_ret
        exact ⟨rfl, Below.refl _ _⟩
    · go_enter Try.func21, Try.ntmps21
      go_wp2_with (first | ((with_reducible refine hna.mono ?_); rintro e w' ⟨rfl, rfl⟩) | ((with_reducible refine hnb.mono ?_); rintro e w' ⟨rfl, rfl⟩) | ((with_reducible refine (HSI.out _).mono ?_); rintro e w' ⟨rfl, rfl⟩))
      all_goals
        go_ret
        exact ⟨rfl, Below.refl _ _⟩
    · go_enter Try.func21, Try.ntmps21
      go_wp2_with (first | ((with_reducible refine hna.mono ?_); rintro e w' ⟨rfl, rfl⟩) | ((with_reducible refine hnb.mono ?_); rintro e w' ⟨rfl, rfl⟩) | ((with_reducible refine (HSI.out _).mono ?_); rintro e w' ⟨rfl, rfl⟩))
      all_goals
        go_ret
        exact ⟨rfl, Below.refl _ _⟩
  · have fa : rg a < inf := by omega
    have fb : rg b < inf := by omega
    rw [mulB_fin a b fa fb]
    have d1 : decide (rg a = inf) = false := by simp; omega
    have d2 : decide (rg b = inf) = false := by simp; omega
    rw [d1] at ia
    rw [d2] at ib
    obtain ⟨p1, p2, p3⟩ := open_bounds a fa
    obtain ⟨q1, q2, q3⟩ := open_bounds b fb
    have HOA := Lib.hid (fun W => open_any W a ha fa)
    have HOB := Lib.hid (fun W => open_any W b hb fb)
    have hmul := fun W => Try.bits_Mul64 (mg a) (mg b) (by omega) (by omega) W
    have hx : mg a * mg b < 2 ^ 128 := Nat.lt_of_lt_of_le (Nat.mul_lt_mul'' p3 q3) (by decide)
    have hrd := fun W => rounded_all W (sg a ^^ sg b) (mg a * mg b / 18446744073709551616) (mg a * mg b % 18446744073709551616) (pl a + pl b) false (by omega) (by omega) (by omega) (by omega) (fun h => by cases h)
    have e1 : near (sg a ^^ sg b) (W128 (mg a * mg b / 18446744073709551616) (mg a * mg b % 18446744073709551616)) (pl a + pl b) false = Ieee.double.nearest (sg a ^^ sg b) (mg a * mg b) (pl a + pl b) := by
      unfold near W128
      simp only [Bool.false_eq_true, if_false]
      congr 1
      omega
    simp only [e1] at hrd
    generalize Ieee.double.nearest (sg a ^^ sg b) (mg a * mg b) (pl a + pl b) = v at *
    clear e1 hx d1 d2 fa fb hi la lb na nb
    generalize mg a * mg b / 18446744073709551616 = X at *
    generalize mg a * mg b % 18446744073709551616 = Y at *
    generalize decide (rg a = 0) = x3 at *
    generalize decide (rg b = 0) = x4 at *
    have HM := Lib.hid hmul
    have HR := Lib.hid hrd
    clear hmul hrd
    generalize (sg a ^^ sg b) = s at *
    generalize sg a = sa at *
    generalize sg b = sb at *
    generalize rg a = p at *
    generalize rg b = q at *
    generalize mg a = ma at *
    generalize mg b = mb at *
    generalize pl a = pa at *
    generalize pl b = pb at *
    have hb0 := Below.refl w.heap.size w
    cases x3 <;> cases x4
    all_goals
      go_enter Try.func21, Try.ntmps21
      go_wp2_with (first | ((with_reducible refine hna.mono ?_); rintro e w' ⟨rfl, rfl⟩) | ((with_reducible refine hnb.mono ?_); rintro e w' ⟨rfl, rfl⟩) | ((with_reducible refine (HOA.out _).mono ?_); rintro e w1 ⟨rfl, hb1⟩) | ((with_reducible refine (HOB.out _).mono ?_); rintro e w2 ⟨rfl, hb2⟩) | ((with_reducible refine (HM.out _).mono ?_); rintro e w3 ⟨rfl, rfl⟩))
      refine (HR.out _).mono ?_
      rintro e w4 ⟨rfl, hb4⟩
      have hbx := hb1.trans (hb2.mono hb1.size)
      have hby := (hbx.alloc hbx.size (.cells #[.bool sa, .int .u64 0, .int .u64 ma, .int .i64 pa, .bool false] 41))
      have hbz := (hby.alloc hby.size (.cells #[.bool sb, .int .u64 0, .int .u64 mb, .int .i64 pb, .bool false] 41))
      have HBZ := Lib.hid (hbz.trans (hb4.mono hbz.size))
      clear hbx hby hbz hb4 hb1 hb2
      go_wp2_with fail
      go_ret
      exact ⟨rfl, HBZ.out⟩
end Go.Proofs.Ytlgnkgcofdjamaa
