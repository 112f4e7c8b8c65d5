/-
  The document's own float, by the small calls: none, signed, left, right, length, open.
-/
import Derived.Test.YtlgnkgcofdjamaaShelf
import Derived.Test.YtlgnkgcofdjamaaKnuth
import Derived.Test.YtlgnkgcofdjamaaLawOrder
import Derived.Test.YtlgnkgcofdjamaaDivM
namespace Go.Proofs.Ytlgnkgcofdjamaa
open Go.RowKit

theorem ofInt_nat (x : Nat) : BitVec.ofInt 64 (x : Int) = BitVec.ofNat 64 x := by
  apply BitVec.eq_of_toNat_eq
  simp
theorem or_nat (a b : Nat) (ha : a < 2 ^ 64) (hb : b < 2 ^ 64) : bits .or .u64 (a : Int) (b : Int) = ((a ||| b : Nat) : Int) := by
  show IntKind.u64.wrap ((((BitVec.ofInt 64 (a : Int)) ||| (BitVec.ofInt 64 (b : Int)) : BitVec 64).toNat : Nat) : Int) = _
  have h : a ||| b < 2 ^ 64 := Nat.or_lt_two_pow ha hb
  rw [ofInt_nat, ofInt_nat, BitVec.toNat_or, BitVec.toNat_ofNat, BitVec.toNat_ofNat, Nat.mod_eq_of_lt ha, Nat.mod_eq_of_lt hb, IntKind.wrap_u64]
  omega
theorem and_nat (a b : Nat) (ha : a < 2 ^ 64) (hb : b < 2 ^ 64) : bits .and .u64 (a : Int) (b : Int) = ((a &&& b : Nat) : Int) := by
  show IntKind.u64.wrap ((((BitVec.ofInt 64 (a : Int)) &&& (BitVec.ofInt 64 (b : Int)) : BitVec 64).toNat : Nat) : Int) = _
  have h : a &&& b < 2 ^ 64 := Nat.and_lt_two_pow a hb
  rw [ofInt_nat, ofInt_nat, BitVec.toNat_and, BitVec.toNat_ofNat, BitVec.toNat_ofNat, Nat.mod_eq_of_lt ha, Nat.mod_eq_of_lt hb, IntKind.wrap_u64]
  omega
/-- Bits above, and bits below. -/
theorem or_parts (x k y : Nat) (hy : y < 2 ^ k) (hx : x * 2 ^ k < 2 ^ 64) (hk : k ≤ 64) : bits .or .u64 ((x * 2 ^ k : Nat) : Int) (y : Int) = ((x * 2 ^ k + y : Nat) : Int) := by
  rw [or_nat _ _ hx (Nat.lt_of_lt_of_le hy (Nat.pow_le_pow_right (by decide) hk))]
  have := Nat.shiftLeft_add_eq_or_of_lt hy x
  rw [Nat.shiftLeft_eq] at this
  rw [this]
theorem or_top (r : Nat) (hr : r < 2 ^ 63) : bits .or .u64 (r : Int) 9223372036854775808 = ((mk true r : Nat) : Int) := by
  have h := or_nat r 9223372036854775808 (by omega) (by decide)
  have e : r ||| 9223372036854775808 = mk true r := by
    have := Nat.shiftLeft_add_eq_or_of_lt (i := 63) (b := r) hr 1
    rw [Nat.shiftLeft_eq, show (1 * 2 ^ 63 : Nat) = 9223372036854775808 from rfl] at this
    rw [Nat.or_comm, ← this]
    rfl
  rw [e] at h
  exact h
/-- A number of 128 bits. -/
def W128 (hi lo : Nat) : Nat := hi * 18446744073709551616 + lo
set_option maxRecDepth 100000 in
theorem rnone_any (w : World) (a : Nat) (ha : a < 2 ^ 64) : Calls Try.prog 40 #[.int .u64 a] w fun e w' => e = .returned (.bool (decide (isNone a))) ∧ w = w' := by
  have h1 := andNot_sign a ha
  have h2 : isNone a ↔ (9218868437227405312 : Int) < (rg a : Int) := by unfold isNone inf; omega
  have h3 : decide ((9218868437227405312 : Int) < (rg a : Int)) = decide (isNone a) := by rw [decide_eq_decide]; exact h2.symm
  generalize decide (isNone a) = q at h3 ⊢
  clear h2
  go_enter Try.func40, Try.ntmps40
  go_wp2
  go_ret
  exact ⟨rfl, rfl⟩
set_option maxRecDepth 100000 in
theorem signed_any (w : World) (neg : Bool) (r : Nat) (hr : r < 2 ^ 63) : Calls Try.prog 50 #[.bool neg, .int .u64 r] w fun e w' => e = .returned (.int .u64 (mk neg r)) ∧ w = w' := by
  have h1 := or_top r hr
  go_enter Try.func50, Try.ntmps50
  cases neg with
  | true =>
    go_wp2
    go_ret
    exact ⟨rfl, rfl⟩
  | false =>
    go_wp2
    go_ret
    exact ⟨rfl, rfl⟩
theorem wrap_nat (x : Nat) (h : x < 2 ^ 64) : IntKind.u64.wrap (x : Int) = (x : Int) := by
  rw [IntKind.wrap_u64]; omega
theorem shl_low (hi lo n : Nat) (h1 : n < 64) (h : W128 hi lo * 2 ^ n < 2 ^ 128) (hl : lo < 2 ^ 64) :
    bits .or .u64 (IntKind.u64.wrap ((hi : Int) * 2 ^ n)) ((lo : Int) / 2 ^ (64 - n)) = ((W128 hi lo * 2 ^ n / 18446744073709551616 : Nat) : Int) ∧ IntKind.u64.wrap ((lo : Int) * 2 ^ n) = ((W128 hi lo * 2 ^ n % 18446744073709551616 : Nat) : Int) := by
  have e : W128 hi lo * 2 ^ n = hi * 2 ^ n * 18446744073709551616 + lo * 2 ^ n := by
    unfold W128
    rw [Nat.add_mul, Nat.mul_right_comm]
  have e2 : lo * 2 ^ n / 18446744073709551616 = lo / 2 ^ (64 - n) := by
    have : 18446744073709551616 = 2 ^ (64 - n) * 2 ^ n := by rw [← Nat.pow_add, Nat.sub_add_cancel (by omega)]
    rw [this, Nat.mul_div_mul_right _ _ (Nat.two_pow_pos n)]
  have hx : hi * 2 ^ n < 2 ^ 64 := by omega
  have hy : lo / 2 ^ (64 - n) < 2 ^ n := by
    rw [Nat.div_lt_iff_lt_mul (Nat.two_pow_pos _), ← Nat.pow_add]
    rw [show n + (64 - n) = 64 by omega]
    exact hl
  have c1 : ((hi : Int) * 2 ^ n) = ((hi * 2 ^ n : Nat) : Int) := by simp
  have c2 : ((lo : Int) / 2 ^ (64 - n)) = ((lo / 2 ^ (64 - n) : Nat) : Int) := by simp
  have c3 : ((lo : Int) * 2 ^ n) = ((lo * 2 ^ n : Nat) : Int) := by simp
  rw [c1, c2, c3, wrap_nat _ hx, or_parts hi n _ hy hx (by omega), e, ← e2]
  generalize hi * 2 ^ n = A
  generalize lo * 2 ^ n = B
  refine ⟨by omega, ?_⟩
  rw [IntKind.wrap_u64]
  omega
theorem shl_high (hi lo n : Nat) (h1 : 64 ≤ n) (h : W128 hi lo * 2 ^ n < 2 ^ 128) :
    IntKind.u64.wrap ((lo : Int) * 2 ^ (n - 64)) = ((W128 hi lo * 2 ^ n / 18446744073709551616 : Nat) : Int) ∧ (0 : Int) = ((W128 hi lo * 2 ^ n % 18446744073709551616 : Nat) : Int) := by
  have e0 : 2 ^ n = 2 ^ (n - 64) * 18446744073709551616 := by
    rw [show (18446744073709551616 : Nat) = 2 ^ 64 from rfl, ← Nat.pow_add, Nat.sub_add_cancel h1]
  have hp : 0 < 2 ^ (n - 64) := Nat.two_pow_pos _
  have hh : hi = 0 := by
    rcases Nat.eq_zero_or_pos hi with e | e
    · exact e
    · have a1 : 1 * 18446744073709551616 ≤ W128 hi lo := by unfold W128; omega
      have a2 := Nat.mul_le_mul a1 (show 18446744073709551616 ≤ 2 ^ n by rw [e0]; omega)
      omega
  subst hh
  have e : W128 0 lo * 2 ^ n = lo * 2 ^ (n - 64) * 18446744073709551616 := by
    unfold W128
    rw [Nat.zero_mul, Nat.zero_add, e0, Nat.mul_assoc]
  have c3 : ((lo : Int) * 2 ^ (n - 64)) = ((lo * 2 ^ (n - 64) : Nat) : Int) := by simp
  rw [e] at h ⊢
  rw [c3, wrap_nat _ (by omega)]
  generalize lo * 2 ^ (n - 64) = B
  omega
set_option maxRecDepth 100000 in
theorem rleft_any (w : World) (hi lo n : Nat) (h2 : lo < 2 ^ 64) (hn : n ≤ 127) (h : W128 hi lo * 2 ^ n < 2 ^ 128) : Calls Try.prog 39 #[.int .u64 hi, .int .u64 lo, .int .i64 n] w fun e w' => e = .returned (.tuple #[.int .u64 ((W128 hi lo * 2 ^ n / 18446744073709551616 : Nat) : Int), .int .u64 ((W128 hi lo * 2 ^ n % 18446744073709551616 : Nat) : Int)]) ∧ w = w' := by
  by_cases h64 : 64 ≤ n
  · obtain ⟨e1, e2⟩ := shl_high hi lo n h64 h
    have i1 : (64 : Int) ≤ (n : Int) := by omega
    have i2 : (n : Int) ≤ 127 := by omega
    rw [← e2]
    clear e2 h
    generalize ((W128 hi lo * 2 ^ n / 18446744073709551616 : Nat) : Int) = q at e1 ⊢
    go_enter Try.func39, Try.ntmps39
    go_wp2
    go_ret2
    exact ⟨by rw [← e1]; rfl, rfl⟩
  · obtain ⟨e1, e2⟩ := shl_low hi lo n (by omega) h h2
    have i1 : ¬ (64 : Int) ≤ (n : Int) := by omega
    clear h
    generalize ((W128 hi lo * 2 ^ n / 18446744073709551616 : Nat) : Int) = q at e1 ⊢
    generalize ((W128 hi lo * 2 ^ n % 18446744073709551616 : Nat) : Int) = r at e2 ⊢
    go_enter Try.func39, Try.ntmps39
    go_wp2
    go_ret2
    exact ⟨rfl, rfl⟩
theorem mask_is (x k : Nat) (hx : x < 2 ^ 64) (hk : k < 64) : bits .and .u64 (x : Int) (IntKind.u64.wrap (IntKind.u64.wrap (2 ^ k) - 1)) = ((x % 2 ^ k : Nat) : Int) := by
  have hp : 2 ^ k < 2 ^ 64 := Nat.pow_lt_pow_right (by decide) hk
  have h0 : 0 < 2 ^ k := Nat.two_pow_pos k
  have c1 : (2 : Int) ^ k = ((2 ^ k : Nat) : Int) := by simp
  have c2 : ((2 ^ k : Nat) : Int) - 1 = ((2 ^ k - 1 : Nat) : Int) := by omega
  rw [c1, wrap_nat _ hp, c2, wrap_nat _ (by omega), and_nat _ _ hx (by omega), Nat.and_two_pow_sub_one_eq_mod]
theorem bne_int (x : Nat) : (((x : Nat) : Int) != 0) = decide (x ≠ 0) := by
  by_cases h : x = 0
  · subst h; rfl
  · have : ((x : Nat) : Int) ≠ 0 := by omega
    simp [h]
theorem shr_low (hi lo n : Nat) (h1 : hi < 2 ^ 64) (h2 : lo < 2 ^ 64) (hn : n < 64) :
    bits .or .u64 ((lo : Int) / 2 ^ n) (IntKind.u64.wrap ((hi : Int) * 2 ^ (64 - n))) = ((W128 hi lo / 2 ^ n % 18446744073709551616 : Nat) : Int) ∧ (hi : Int) / 2 ^ n = ((W128 hi lo / 2 ^ n / 18446744073709551616 : Nat) : Int) ∧
    (bits .and .u64 (lo : Int) (IntKind.u64.wrap (IntKind.u64.wrap (2 ^ n) - 1)) != 0) = decide (W128 hi lo % 2 ^ n ≠ 0) := by
  have hp : 0 < 2 ^ n := Nat.two_pow_pos n
  have e64 : 18446744073709551616 = 2 ^ (64 - n) * 2 ^ n := by rw [← Nat.pow_add, Nat.sub_add_cancel (by omega)]
  have e64' : 18446744073709551616 = 2 ^ n * 2 ^ (64 - n) := by rw [Nat.mul_comm]; exact e64
  have eW : W128 hi lo = hi * 2 ^ (64 - n) * 2 ^ n + lo := by unfold W128; rw [e64, Nat.mul_assoc]
  have eD : W128 hi lo / 2 ^ n = hi * 2 ^ (64 - n) + lo / 2 ^ n := by
    rw [eW, Nat.mul_comm _ (2 ^ n), Nat.mul_add_div hp]
  have eM : W128 hi lo % 2 ^ n = lo % 2 ^ n := by rw [eW, Nat.mul_comm _ (2 ^ n), Nat.mul_add_mod]
  have hy : lo / 2 ^ n < 2 ^ (64 - n) := by
    rw [Nat.div_lt_iff_lt_mul hp, ← e64]
    exact h2
  have hA : hi * 2 ^ (64 - n) = (hi / 2 ^ n) * 18446744073709551616 + (hi % 2 ^ n) * 2 ^ (64 - n) := by
    rw [e64', ← Nat.mul_assoc, ← Nat.add_mul, Nat.mul_comm (hi / 2 ^ n), Nat.div_add_mod]
  have hB : (hi % 2 ^ n) * 2 ^ (64 - n) + lo / 2 ^ n < 18446744073709551616 := by
    have a1 : hi % 2 ^ n + 1 ≤ 2 ^ n := Nat.mod_lt _ hp
    have a2 := Nat.mul_le_mul_right (2 ^ (64 - n)) a1
    rw [← e64', Nat.add_mul, Nat.one_mul] at a2
    omega
  have hC : (hi % 2 ^ n) * 2 ^ (64 - n) < 2 ^ 64 := Nat.lt_of_le_of_lt (Nat.le_add_right _ _) hB
  have c1 : ((hi : Int) * 2 ^ (64 - n)) = ((hi * 2 ^ (64 - n) : Nat) : Int) := by simp
  have c2 : ((lo : Int) / 2 ^ n) = ((lo / 2 ^ n : Nat) : Int) := by simp
  have c3 : ((hi : Int) / 2 ^ n) = ((hi / 2 ^ n : Nat) : Int) := by simp
  have hw : IntKind.u64.wrap ((hi * 2 ^ (64 - n) : Nat) : Int) = (((hi % 2 ^ n) * 2 ^ (64 - n) : Nat) : Int) := by
    rw [IntKind.wrap_u64, hA]
    generalize hi % 2 ^ n * 2 ^ (64 - n) = z at hC
    generalize hi / 2 ^ n = y
    omega
  refine ⟨?_, ?_, ?_⟩
  · rw [c1, c2, hw, or_nat _ _ (by omega) hC, Nat.or_comm]
    have hs := Nat.shiftLeft_add_eq_or_of_lt hy (hi % 2 ^ n)
    rw [Nat.shiftLeft_eq] at hs
    rw [← hs, eD, hA]
    congr 1
    generalize hi % 2 ^ n * 2 ^ (64 - n) = z at hB
    generalize hi / 2 ^ n = y
    generalize lo / 2 ^ n = x at hB
    omega
  · rw [c3, eD, hA]
    congr 1
    generalize hi % 2 ^ n * 2 ^ (64 - n) = z at hB
    generalize hi / 2 ^ n = y
    generalize lo / 2 ^ n = x at hB
    omega
  · rw [mask_is lo n h2 hn, bne_int, eM]
theorem shr_mid (hi lo n : Nat) (h1 : hi < 2 ^ 64) (h2 : lo < 2 ^ 64) (hn : 64 ≤ n) (hn2 : n < 128) :
    (hi : Int) / 2 ^ (n - 64) = ((W128 hi lo / 2 ^ n % 18446744073709551616 : Nat) : Int) ∧ (0 : Int) = ((W128 hi lo / 2 ^ n / 18446744073709551616 : Nat) : Int) ∧
    ((lo != 0) || (bits .and .u64 (hi : Int) (IntKind.u64.wrap (IntKind.u64.wrap (2 ^ (n - 64)) - 1)) != 0)) = decide (W128 hi lo % 2 ^ n ≠ 0) := by
  have e0 : 2 ^ n = 18446744073709551616 * 2 ^ (n - 64) := by
    rw [show (18446744073709551616 : Nat) = 2 ^ 64 from rfl, ← Nat.pow_add]
    congr 1; omega
  have eh : W128 hi lo / 18446744073709551616 = hi := by unfold W128; omega
  have el : W128 hi lo % 18446744073709551616 = lo := by unfold W128; omega
  have eD : W128 hi lo / 2 ^ n = hi / 2 ^ (n - 64) := by rw [e0, ← Nat.div_div_eq_div_mul, eh]
  have eM : W128 hi lo % 2 ^ n = lo + 18446744073709551616 * (hi % 2 ^ (n - 64)) := by rw [e0, Nat.mod_mul, eh, el]
  have hd : hi / 2 ^ (n - 64) < 18446744073709551616 := Nat.lt_of_le_of_lt (Nat.div_le_self _ _) h1
  have c3 : ((hi : Int) / 2 ^ (n - 64)) = ((hi / 2 ^ (n - 64) : Nat) : Int) := by simp
  refine ⟨by rw [c3, eD, Nat.mod_eq_of_lt hd], by rw [eD, Nat.div_eq_of_lt hd]; rfl, ?_⟩
  rw [mask_is hi _ h1 (by omega), bne_int, eM]
  by_cases a : lo = 0
  · subst a
    simp
    omega
  · simp [a]
theorem shr_all (hi lo n : Nat) (h1 : hi < 2 ^ 64) (h2 : lo < 2 ^ 64) (hn : 128 ≤ n) :
    (0 : Int) = ((W128 hi lo / 2 ^ n % 18446744073709551616 : Nat) : Int) ∧ (0 : Int) = ((W128 hi lo / 2 ^ n / 18446744073709551616 : Nat) : Int) ∧ (bits .or .u64 (hi : Int) (lo : Int) != 0) = decide (W128 hi lo % 2 ^ n ≠ 0) := by
  have hp : 2 ^ 128 ≤ 2 ^ n := Nat.pow_le_pow_right (by decide) hn
  have hW : W128 hi lo < 2 ^ n := by unfold W128; omega
  rw [Nat.div_eq_of_lt hW, Nat.mod_eq_of_lt hW, or_nat _ _ h1 h2, bne_int]
  refine ⟨rfl, rfl, ?_⟩
  rw [decide_eq_decide]
  unfold W128
  constructor
  · intro h e
    obtain rfl : hi = 0 := by omega
    obtain rfl : lo = 0 := by omega
    exact h rfl
  · intro h e
    have := Nat.or_eq_zero_iff.1 e
    omega
set_option maxRecDepth 100000 in
theorem rright_any (w : World) (hi lo n : Nat) (h1 : hi < 2 ^ 64) (h2 : lo < 2 ^ 64) : Calls Try.prog 38 #[.int .u64 hi, .int .u64 lo, .int .i64 n] w fun e w' => e = .returned (.tuple #[.int .u64 ((W128 hi lo / 2 ^ n / 18446744073709551616 : Nat) : Int), .int .u64 ((W128 hi lo / 2 ^ n % 18446744073709551616 : Nat) : Int), .bool (decide (W128 hi lo % 2 ^ n ≠ 0))]) ∧ w = w' := by
  by_cases h : 128 ≤ n
  · obtain ⟨e1, e2, e3⟩ := shr_all hi lo n h1 h2 h
    have i1 : (128 : Int) ≤ (n : Int) := by omega
    rw [← e1, ← e2, ← e3]
    clear e1 e2 e3
    go_enter Try.func38, Try.ntmps38
    go_wp2
    go_ret3
    exact ⟨rfl, rfl⟩
  by_cases h' : 64 ≤ n
  · obtain ⟨e1, e2, e3⟩ := shr_mid hi lo n h1 h2 h' (by omega)
    have i1 : (64 : Int) ≤ (n : Int) := by omega
    have i2 : ¬ (128 : Int) ≤ (n : Int) := by omega
    rw [← e1, ← e2, ← e3]
    clear e1 e2 e3
    by_cases h0 : lo = 0
    · subst h0
      go_enter Try.func38, Try.ntmps38
      go_wp2
      go_ret3
      exact ⟨by simp, rfl⟩
    · have i3 : ((lo : Int) != 0) = true := by rw [bne_int]; simp [h0]
      have i4 : (lo != 0) = true := by simp [h0]
      rw [i4, Bool.true_or]
      go_enter Try.func38, Try.ntmps38
      go_wp2
      all_goals go_ret3
      all_goals exact ⟨rfl, rfl⟩
  · obtain ⟨e1, e2, e3⟩ := shr_low hi lo n h1 h2 (by omega)
    have i1 : ¬ (64 : Int) ≤ (n : Int) := by omega
    have i2 : ¬ (128 : Int) ≤ (n : Int) := by omega
    rw [← e1, ← e2, ← e3]
    clear e1 e2 e3
    go_enter Try.func38, Try.ntmps38
    go_wp2
    go_ret3
    exact ⟨rfl, rfl⟩
/-- How many bits a number of 128 bits has. -/
theorem len_high (hi lo : Nat) (h0 : 0 < hi) (h2 : lo < 2 ^ 64) : len (W128 hi lo) = 64 + len hi := by
  unfold len
  have a1 : hi ≠ 0 := by omega
  have a2 : W128 hi lo ≠ 0 := by unfold W128; omega
  rw [if_neg a1, if_neg a2]
  have b1 := Nat.log2_self_le a1
  have b2 : hi < 2 ^ (hi.log2 + 1) := Nat.lt_log2_self
  have : (W128 hi lo).log2 = hi.log2 + 64 := by
    rw [Nat.log2_eq_iff a2]
    unfold W128
    rw [show hi.log2 + 64 + 1 = hi.log2 + 1 + 64 by omega, Nat.pow_add, Nat.pow_add _ (hi.log2 + 1) 64]
    generalize 2 ^ hi.log2 = x at *
    generalize 2 ^ (hi.log2 + 1) = y at *
    omega
  omega
theorem len_low (lo : Nat) : len (W128 0 lo) = len lo := by
  unfold W128
  rw [Nat.zero_mul, Nat.zero_add]
set_option maxRecDepth 100000 in
theorem rlength_any (w : World) (hi lo : Nat) (h1 : hi < 2 ^ 64) (h2 : lo < 2 ^ 64) : Calls Try.prog 57 #[.int .u64 hi, .int .u64 lo] w fun e w' => e = .returned (.int .i64 (len (W128 hi lo))) ∧ w = w' := by
  by_cases h0 : 0 < hi
  · have hl := Try.bits_Len64 (hi : Int) w (by omega) (by omega)
    rw [Int.toNat_natCast, bitLen_len hi h1] at hl
    have e := len_high hi lo h0 h2
    have i1 : (0 : Int) < (hi : Int) := by omega
    have hb : len hi ≤ 64 := by
      unfold len
      split
      · omega
      · rename_i hne; have := (Nat.log2_lt hne).2 h1; omega
    rw [e]
    generalize len hi = n at hl hb ⊢
    clear e
    go_enter Try.func57, Try.ntmps57
    go_wp2_with fail
    refine hl.mono ?_
    rintro e w' ⟨rfl, rfl⟩
    go_wp2_with fail
    go_ret
    exact ⟨by simp, rfl⟩
  · obtain rfl : hi = 0 := by omega
    have hl := Try.bits_Len64 (lo : Int) w (by omega) (by omega)
    rw [Int.toNat_natCast, bitLen_len lo h2] at hl
    rw [len_low]
    generalize len lo = n at hl ⊢
    go_enter Try.func57, Try.ntmps57
    go_wp2_with fail
    refine hl.mono ?_
    rintro e w' ⟨rfl, rfl⟩
    go_wp2_with fail
    go_ret
    exact ⟨rfl, rfl⟩
end Go.Proofs.Ytlgnkgcofdjamaa
