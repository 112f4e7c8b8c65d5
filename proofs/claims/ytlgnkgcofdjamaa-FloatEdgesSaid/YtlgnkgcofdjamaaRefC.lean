/-
  The document's own float: place, Less, Same, Order, Of, Mul.
-/
import Derived.Test.YtlgnkgcofdjamaaRefB
namespace Go.Proofs.Ytlgnkgcofdjamaa
open Go.RowKit

def plc (a : Nat) : Nat := if sg a then 2 ^ 63 - 1 - rg a else 2 ^ 63 + rg a
theorem not_nat (a : Nat) (ha : a < 2 ^ 64) : bits .xor .u64 IntKind.u64.max (a : Int) = 18446744073709551615 - (a : Int) := by
  show IntKind.u64.wrap ((((BitVec.ofInt 64 IntKind.u64.max) ^^^ (BitVec.ofInt 64 (a : Int)) : BitVec 64).toNat : Nat) : Int) = _
  have e : BitVec.ofInt 64 IntKind.u64.max = BitVec.allOnes 64 := by decide
  rw [e, ofInt_nat, BitVec.allOnes_xor, BitVec.toNat_not, BitVec.toNat_ofNat, Nat.mod_eq_of_lt ha, IntKind.wrap_u64]
  omega
set_option maxRecDepth 100000 in
theorem place_any (w : World) (a : Nat) (ha : a < 2 ^ 64) : Calls Try.prog 60 #[.int .u64 a] w fun e w' => e = .returned (.int .u64 (plc a)) ∧ w = w' := by
  have hs : sg a = decide ((9223372036854775808 : Int) ≤ (a : Int)) := (sg_ge a ha).symm
  unfold plc
  by_cases h : (9223372036854775808 : Int) ≤ (a : Int)
  · rw [hs, decide_eq_true h, if_pos rfl]
    have hr : rg a = a - 2 ^ 63 := by unfold rg; omega
    have hx : ((2 ^ 63 - 1 - rg a : Nat) : Int) = 18446744073709551615 - (a : Int) := by rw [hr]; omega
    rw [hx]
    have hnot := not_nat a ha
    have hsg : IntKind.u64.signed = false := rfl
    clear hs hx hr
    go_enter Try.func60, Try.ntmps60
    go_wp2
    go_ret
    exact ⟨rfl, rfl⟩
  · rw [hs, decide_eq_false h, if_neg (by simp)]
    have hr : rg a = a := by unfold rg; omega
    have hor := or_top a (by omega)
    rw [hr]
    have e : mk true a = 2 ^ 63 + a := by unfold mk; rw [if_pos rfl]
    rw [e] at hor
    generalize 2 ^ 63 + a = q at *
    clear hs hr e
    go_enter Try.func60, Try.ntmps60
    go_wp2
    go_ret
    exact ⟨rfl, rfl⟩
theorem or_zero (a b : Nat) (ha : a < 2 ^ 64) (hb : b < 2 ^ 64) : bits .andNot .u64 (bits .or .u64 (a : Int) (b : Int)) 9223372036854775808 = ((rg (a ||| b) : Nat) : Int) := by
  rw [or_nat a b ha hb]
  exact andNot_sign _ (Nat.or_lt_two_pow ha hb)
theorem rg_or (a b : Nat) : rg (a ||| b) = 0 ↔ rg a = 0 ∧ rg b = 0 := by
  unfold rg
  rw [Nat.or_mod_two_pow, Nat.or_eq_zero_iff]
theorem less_plc (a b : Nat) (na : ¬ isNone a) (nb : ¬ isNone b) : lessB a b = (decide (plc a < plc b) && !(decide (rg (a ||| b) = 0))) := by
  unfold lessB
  rw [order_some a b na nb]
  have hra := rg_lt a
  have hrb := rg_lt b
  have ho := rg_or a b
  have hk : (compare (key a) (key b) = .lt) ↔ key a < key b := by
    rcases Int.lt_trichotomy (key a) (key b) with h | h | h
    · rw [cmp_lt h]; simp [h]
    · rw [cmp_eq h]; simp [h]
    · rw [cmp_gt h]; simp; omega
  rw [Bool.eq_iff_iff, decide_eq_true_eq, Option.some.injEq, hk, Bool.and_eq_true, Bool.not_eq_true', decide_eq_true_eq, decide_eq_false_iff_not, ho]
  unfold key plc
  cases sg a <;> cases sg b <;> simp only [if_true, Bool.false_eq_true, if_false] <;> omega
theorem same_plc (a b : Nat) (ha : a < 2 ^ 64) (hb : b < 2 ^ 64) (na : ¬ isNone a) (nb : ¬ isNone b) : sameB a b = (decide (a = b) || decide (rg (a ||| b) = 0)) := by
  unfold sameB
  rw [order_some a b na nb]
  have ho := rg_or a b
  have hra := rg_lt a
  have hrb := rg_lt b
  have hk : (compare (key a) (key b) = .eq) ↔ key a = key b := by
    rcases Int.lt_trichotomy (key a) (key b) with h | h | h
    · rw [cmp_lt h]; simp; omega
    · rw [cmp_eq h]; simp [h]
    · rw [cmp_gt h]; simp; omega
  have hab : a = b ↔ sg a = sg b ∧ rg a = rg b := ⟨fun h => by rw [h]; exact ⟨rfl, rfl⟩, fun h => word_ext ha hb h.2 h.1⟩
  rw [Bool.eq_iff_iff, decide_eq_true_eq, Option.some.injEq, hk, Bool.or_eq_true, decide_eq_true_eq, decide_eq_true_eq, ho, hab]
  unfold key
  cases sg a <;> cases sg b <;> simp <;> omega
theorem less_none (a b : Nat) (h : isNone a ∨ isNone b) : lessB a b = false := by unfold lessB; rw [order_none a b h]; rfl
theorem same_none (a b : Nat) (h : isNone a ∨ isNone b) : sameB a b = false := by unfold sameB; rw [order_none a b h]; rfl
theorem order_plc (a b : Nat) : orderB a b = if plc (canonB a) < plc (canonB b) then -1 else if plc (canonB b) < plc (canonB a) then 1 else 0 := by
  have key1 : ∀ x : Nat, isNone x → (plc (canonB x) : Int) = 2 ^ 63 + NAN := fun x h => by
    unfold canonB; rw [if_pos h]; rfl
  have key2 : ∀ x : Nat, ¬ isNone x → (plc (canonB x) : Int) = 2 ^ 63 + pos x ∧ pos x ≤ inf := fun x h => by
    have hr := rg_lt x
    unfold canonB pos plc
    rw [if_neg h, if_neg h]
    unfold isNone inf at h
    unfold inf
    cases sg x <;> simp only [if_true, Bool.false_eq_true, if_false] <;> omega
  have hi : (inf : Int) = 9218868437227405312 := rfl
  have hN : (NAN : Int) = 9221120237041090560 := rfl
  unfold orderB
  by_cases h1 : isNone a <;> by_cases h2 : isNone b
  · have := key1 a h1
    have := key1 b h2
    have p1 : pos a = inf + 1 := by unfold pos; rw [if_pos h1]
    have p2 : pos b = inf + 1 := by unfold pos; rw [if_pos h2]
    split <;> split <;> (try split) <;> omega
  · have := key1 a h1
    have := key2 b h2
    have p1 : pos a = inf + 1 := by unfold pos; rw [if_pos h1]
    split <;> split <;> (try split) <;> omega
  · have := key2 a h1
    have := key1 b h2
    have p2 : pos b = inf + 1 := by unfold pos; rw [if_pos h2]
    split <;> split <;> (try split) <;> omega
  · have := key2 a h1
    have := key2 b h2
    split <;> split <;> (try split) <;> omega
end Go.Proofs.Ytlgnkgcofdjamaa
