/-
  The document's own float: open; orders; Right, Canon, Neg; Of, Mul.
-/
import Derived.Test.YtlgnkgcofdjamaaRefA
namespace Go.Proofs.Ytlgnkgcofdjamaa
open Go.RowKit

theorem xor_nat (a b : Nat) (ha : a < 2 ^ 64) (hb : b < 2 ^ 64) : bits .xor .u64 (a : Int) (b : Int) = ((a ^^^ b : Nat) : Int) := by
  show IntKind.u64.wrap ((((BitVec.ofInt 64 (a : Int)) ^^^ (BitVec.ofInt 64 (b : Int)) : BitVec 64).toNat : Nat) : Int) = _
  have h : a ^^^ b < 2 ^ 64 := Nat.xor_lt_two_pow ha hb
  rw [ofInt_nat, ofInt_nat, BitVec.toNat_xor, BitVec.toNat_ofNat, BitVec.toNat_ofNat, Nat.mod_eq_of_lt ha, Nat.mod_eq_of_lt hb, IntKind.wrap_u64]
  omega
theorem sg_ge (a : Nat) (ha : a < 2 ^ 64) : decide ((9223372036854775808 : Int) ≤ (a : Int)) = sg a := by
  unfold sg
  rw [Bool.eq_iff_iff, decide_eq_true_eq, beq_iff_eq]
  omega
/-- The two fields of a word. -/
theorem fields (a : Nat) (ha : a < 2 ^ 64) : a % 2 ^ 52 = rg a % 2 ^ 52 ∧ a / 2 ^ 52 % 2 ^ 11 = rg a / 2 ^ 52 := by
  unfold rg
  constructor <;> omega
theorem open_fields (a : Nat) (ha : a < 2 ^ 64) (hf : rg a < inf) : (a / 2 ^ 52 % 2 ^ 11 = 0 → mg a = a % 2 ^ 52 ∧ pl a = -1074) ∧ (a / 2 ^ 52 % 2 ^ 11 ≠ 0 → mg a = 2 ^ 52 + a % 2 ^ 52 ∧ pl a = ((a / 2 ^ 52 % 2 ^ 11 : Nat) : Int) - 1075) := by
  obtain ⟨h1, h2⟩ := fields a ha
  rw [h1, h2]
  unfold mg pl
  constructor
  · intro h
    have : rg a < 2 ^ 52 := by omega
    rw [if_pos this, if_pos this]
    omega
  · intro h
    have : ¬ rg a < 2 ^ 52 := by omega
    rw [if_neg this, if_neg this]
    omega
set_option maxRecDepth 100000 in
theorem open_any (w : World) (a : Nat) (ha : a < 2 ^ 64) (hf : rg a < inf) : Calls Try.prog 37 #[.int .u64 a] w fun e w' => e = .returned (.agg #[.bool (sg a), .int .u64 0, .int .u64 (mg a), .int .i64 (pl a), .bool false]) ∧ Below w.heap.size w w' := by
  have h1 : bits .and .u64 (a : Int) 4503599627370495 = ((a % 2 ^ 52 : Nat) : Int) := by
    rw [show (4503599627370495 : Int) = ((2 ^ 52 - 1 : Nat) : Int) from rfl, and_nat _ _ ha (by decide), Nat.and_two_pow_sub_one_eq_mod]
  have h2 : bits .and .u64 ((a : Int) / 4503599627370496) 2047 = ((a / 2 ^ 52 % 2 ^ 11 : Nat) : Int) := by
    have e : (a : Int) / 4503599627370496 = ((a / 2 ^ 52 : Nat) : Int) := by omega
    rw [e, show (2047 : Int) = ((2 ^ 11 - 1 : Nat) : Int) from rfl, and_nat _ _ (by omega) (by decide), Nat.and_two_pow_sub_one_eq_mod]
  have h3 := sg_ge a ha
  obtain ⟨o1, o2⟩ := open_fields a ha hf
  have hf52 : a % 2 ^ 52 < 2 ^ 52 := Nat.mod_lt _ (by decide)
  have he11 : a / 2 ^ 52 % 2 ^ 11 < 2048 := Nat.mod_lt _ (by decide)
  generalize a % 2 ^ 52 = f at *
  generalize a / 2 ^ 52 % 2 ^ 11 = x at *
  have hb : Below w.heap.size w (w.alloc (.cells #[.bool false, .int .u64 0, .int .u64 0, .int .i64 0, .bool false] 41)) := (Below.refl _ _).alloc (Nat.le_refl _) _
  by_cases h0 : x = 0
  · obtain ⟨m1, m2⟩ := o1 h0
    subst h0
    rw [m1, m2]
    clear o1 o2 m1 m2 hf
    generalize sg a = s at *
    go_enter Try.func37, Try.ntmps37
    go_wp2
    simp [bodyPost, results, Try.results37, go_sem]
    exact (Below.refl _ _).alloc (Nat.le_refl _) _
  · obtain ⟨m1, m2⟩ := o2 h0
    have i1 : ((x : Int) == 0) = false := by rw [beq_eq_false_iff_ne]; omega
    have hor : bits .or .u64 (f : Int) 4503599627370496 = ((2 ^ 52 + f : Nat) : Int) := by
      have := or_parts 1 52 f hf52 (by decide) (by decide)
      rw [Nat.one_mul] at this
      rw [← this, show (4503599627370496 : Int) = ((2 ^ 52 : Nat) : Int) from rfl, or_nat _ _ (by omega) (by decide), or_nat _ _ (by decide) (by omega), Nat.or_comm]
    rw [m1, m2]
    clear o1 o2 m1 m2 hf
    generalize sg a = s at *
    generalize 2 ^ 52 + f = F at *
    go_enter Try.func37, Try.ntmps37
    go_wp2
    simp [bodyPost, results, Try.results37, go_sem]
    exact (Below.refl _ _).alloc (Nat.le_refl _) _
set_option maxRecDepth 100000 in
theorem rcanon_any (w : World) (a : Nat) (ha : a < 2 ^ 64) : Calls Try.prog 13 #[.int .u64 a] w fun e w' => e = .returned (.int .u64 (canonB a)) ∧ w = w' := by
  have hn := rnone_any w a ha
  unfold canonB
  by_cases h : isNone a
  · rw [decide_eq_true h] at hn
    rw [if_pos h]
    go_enter Try.func13, Try.ntmps13
    go_wp2_with fail
    refine hn.mono ?_
    rintro e w' ⟨rfl, rfl⟩
    go_wp2_with fail
    go_ret
    exact ⟨rfl, rfl⟩
  · rw [decide_eq_false h] at hn
    rw [if_neg h]
    go_enter Try.func13, Try.ntmps13
    go_wp2_with fail
    refine hn.mono ?_
    rintro e w' ⟨rfl, rfl⟩
    go_wp2_with fail
    go_ret
    exact ⟨rfl, rfl⟩
theorem xor_top (a : Nat) (ha : a < 2 ^ 64) : bits .xor .u64 (a : Int) 9223372036854775808 = ((mk (!sg a) (rg a) : Nat) : Int) := by
  have h := xor_nat a 9223372036854775808 ha (by decide)
  have hf := flip_bits a ha
  unfold Op.negFloat at hf
  rw [← hf]
  exact h
set_option maxRecDepth 100000 in
theorem rneg_any (w : World) (a : Nat) (ha : a < 2 ^ 64) : Calls Try.prog 15 #[.int .u64 a] w fun e w' => e = .returned (.int .u64 (negB a)) ∧ w = w' := by
  have hn := rnone_any w a ha
  have hx := xor_top a ha
  unfold negB
  by_cases h : isNone a
  · rw [decide_eq_true h] at hn
    rw [if_pos h]
    go_enter Try.func15, Try.ntmps15
    go_wp2_with fail
    refine hn.mono ?_
    rintro e w' ⟨rfl, rfl⟩
    go_wp2_with fail
    go_ret
    exact ⟨rfl, rfl⟩
  · rw [decide_eq_false h] at hn
    rw [if_neg h]
    generalize mk (!sg a) (rg a) = q at *
    go_enter Try.func15, Try.ntmps15
    go_wp2_with fail
    refine hn.mono ?_
    rintro e w' ⟨rfl, rfl⟩
    go_wp2_with fail
    go_ret
    exact ⟨rfl, rfl⟩
set_option maxRecDepth 100000 in
theorem rrightB_any (w : World) (a : Nat) (ha : a < 2 ^ 64) : Calls Try.prog 11 #[.int .u64 a] w fun e w' => e = .returned (.bool (decide (canonB a = a))) ∧ w = w' := by
  have hn := rnone_any w a ha
  unfold canonB
  by_cases h : isNone a
  · rw [decide_eq_true h] at hn
    rw [if_pos h]
    have i1 : ((a : Int) == 9221120237041090560) = decide (NAN = a) := by
      rw [Bool.eq_iff_iff, beq_iff_eq, decide_eq_true_eq]; unfold NAN; omega
    generalize decide (NAN = a) = q at *
    go_enter Try.func11, Try.ntmps11
    go_wp2_with fail
    refine hn.mono ?_
    rintro e w' ⟨rfl, rfl⟩
    go_wp2_with fail
    go_ret
    exact ⟨rfl, rfl⟩
  · rw [decide_eq_false h] at hn
    rw [if_neg h]
    go_enter Try.func11, Try.ntmps11
    go_wp2_with fail
    refine hn.mono ?_
    rintro e w' ⟨rfl, rfl⟩
    go_wp2_with fail
    go_ret
    exact ⟨by simp, rfl⟩
end Go.Proofs.Ytlgnkgcofdjamaa
