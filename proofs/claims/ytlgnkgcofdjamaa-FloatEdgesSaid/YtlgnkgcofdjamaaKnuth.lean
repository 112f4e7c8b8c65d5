/-
  A digit of a quotient, guessed and put right (Knuth's algorithm D): plain mathematics.
-/
import Derived.Lib.BitFns
import Derived.Lib.ItoaNum
namespace Go.Proofs.Ytlgnkgcofdjamaa

/-- H times 2^32 and u, by a times 2^32 and c: q is no less than the quotient, r what q leaves of H by a. -/
structure Kn (H u a c q r : Nat) : Prop where
  eq : q * a + r = H
  up : r * 4294967296 + u < q * c + a * 4294967296 + c
  le : q ≤ 4294967297
theorem kn_split (H u a c q r : Nat) (h : q * a + r = H) : H * 4294967296 + u = q * (a * 4294967296) + r * 4294967296 + u ∧ q * (a * 4294967296 + c) = q * (a * 4294967296) + q * c ∧ (q + 1) * (a * 4294967296 + c) = q * (a * 4294967296) + q * c + a * 4294967296 + c := by
  subst h
  rw [Nat.add_mul, Nat.mul_assoc, Nat.add_mul q 1, Nat.one_mul, Nat.mul_add]
  omega
theorem kn_start (H u a c : Nat) (ha : 2147483648 ≤ a) (hc : c < 4294967296) (hu : u < 4294967296) (hH : H < a * 4294967296 + c) : Kn H u a c (H / a) (H % a) := by
  have h1 := Nat.div_add_mod H a
  have h2 := Nat.mod_lt H (show 0 < a by omega)
  refine ⟨by rw [Nat.mul_comm]; exact h1, ?_, ?_⟩
  · generalize H / a * c = p
    omega
  · have : H / a < 4294967298 := by
      rw [Nat.div_lt_iff_lt_mul (by omega)]
      omega
    omega
theorem kn_arith {r u x y c a B : Nat} (e : x = y + c) (k : r * B + u < x) : (r + a) * B + u < y + a * B + c := by
  rw [Nat.add_mul]
  omega
theorem kn_next {H u a c q r : Nat} (h : Kn H u a c q r) (hu : u < 4294967296) (hH : H < a * 4294967296 + c) (ht : 4294967296 ≤ q ∨ 4294967296 * r + u < q * c) : 1 ≤ q ∧ Kn H u a c (q - 1) (r + a) ∧ q - 1 ≤ 4294967296 := by
  have hle := h.le
  have key : r * 4294967296 + u < q * c := by
    rcases ht with ht | ht
    · have h1 := Nat.mul_le_mul_right a ht
      have h2 := h.eq
      have h3 : r < c := by omega
      have h4 := Nat.mul_le_mul_right c ht
      omega
    · omega
  have hq : 1 ≤ q := by
    rcases Nat.eq_zero_or_pos q with e | e
    · subst e; rw [Nat.zero_mul] at key; omega
    · exact e
  refine ⟨hq, ⟨?_, ?_, by omega⟩, by omega⟩
  · have h2 := h.eq
    obtain ⟨p, rfl⟩ : ∃ p, q = p + 1 := ⟨q - 1, by omega⟩
    rw [Nat.add_mul, Nat.one_mul] at h2
    rw [Nat.add_sub_cancel]
    omega
  · have e : q * c = (q - 1) * c + c := by
      obtain ⟨p, rfl⟩ : ∃ p, q = p + 1 := ⟨q - 1, by omega⟩
      rw [Nat.add_sub_cancel, Nat.add_mul p 1 c, Nat.one_mul]
    refine kn_arith e key
theorem kn_end {H u a c q r : Nat} (h : Kn H u a c q r) (hc : q * c ≤ r * 4294967296 + u) : q = (H * 4294967296 + u) / (a * 4294967296 + c) := by
  obtain ⟨e1, e2, e3⟩ := kn_split H u a c q r h.eq
  have hu := h.up
  refine (Nat.div_eq_of_lt_le ?_ ?_).symm
  · rw [e1, e2]; omega
  · rw [e1, e3]; omega
theorem kn_break {H u a c q r : Nat} (h : Kn H u a c q r) (hq : q ≤ 4294967296) (hr : 4294967296 ≤ r) (hc : c < 4294967296) : q = (H * 4294967296 + u) / (a * 4294967296 + c) := by
  refine kn_end h ?_
  have h1 := Nat.mul_le_mul_right c hq
  have h2 : c ≤ r := Nat.le_of_lt (Nat.lt_of_lt_of_le hc hr)
  generalize q * c = p at h1 ⊢
  omega
theorem kn_digit (H u y : Nat) (hu : u < 4294967296) (hH : H < y) : (H * 4294967296 + u) / y < 4294967296 ∧ (H * 4294967296 + u) % y < y := by
  refine ⟨?_, Nat.mod_lt _ (by omega)⟩
  rw [Nat.div_lt_iff_lt_mul (by omega)]
  omega
/-- Both digits. -/
theorem kn_both (H l y : Nat) (hH : H < y) :
    (H * 18446744073709551616 + l) / y = (H * 4294967296 + l / 4294967296) / y * 4294967296 + ((H * 4294967296 + l / 4294967296) % y * 4294967296 + l % 4294967296) / y ∧
    (H * 18446744073709551616 + l) % y = ((H * 4294967296 + l / 4294967296) % y * 4294967296 + l % 4294967296) % y := by
  have h1 := Nat.div_add_mod (H * 4294967296 + l / 4294967296) y
  have hd : H * 18446744073709551616 + l = y * ((H * 4294967296 + l / 4294967296) / y * 4294967296) + ((H * 4294967296 + l / 4294967296) % y * 4294967296 + l % 4294967296) := by
    have h2 : (y * ((H * 4294967296 + l / 4294967296) / y) + (H * 4294967296 + l / 4294967296) % y) * 4294967296 = (H * 4294967296 + l / 4294967296) * 4294967296 := by rw [h1]
    rw [Nat.add_mul, Nat.mul_assoc] at h2
    omega
  rw [hd, Nat.mul_add_div (by omega), Nat.mul_add_mod]
  exact ⟨rfl, rfl⟩
/-- How many bits a number has. -/
def len (n : Nat) : Nat := if n = 0 then 0 else n.log2 + 1
theorem bitLen_len (x : Nat) (h : x < 2 ^ 64) : Lib.bitLen x = len x := by
  unfold len
  by_cases h0 : x = 0
  · subst h0; rw [if_pos rfl]; decide
  · rw [if_neg h0]
    obtain ⟨h1, h2, h3⟩ := Lib.bitLenAux_bounds 64 x h h0
    have h4 : x.log2 = Lib.bitLenAux 64 x - 1 := by
      rw [Nat.log2_eq_iff h0]
      refine ⟨h2, ?_⟩
      rw [Nat.sub_add_cancel h1]
      exact h3
    unfold Lib.bitLen
    omega
end Go.Proofs.Ytlgnkgcofdjamaa
