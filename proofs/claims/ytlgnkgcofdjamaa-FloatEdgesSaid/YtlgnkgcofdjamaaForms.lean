/-
  What a word is made of, and what each operation makes of two such: plain mathematics.
-/
import Derived.Test.YtlgnkgcofdjamaaOps
import Derived.Test.YtlgnkgcofdjamaaScale
namespace Go.Proofs.Ytlgnkgcofdjamaa
open Ieee

def mg (a : Nat) : Nat := if rg a < 2 ^ 52 then rg a else 2 ^ 52 + rg a % 2 ^ 52
def pl (a : Nat) : Int := if rg a < 2 ^ 52 then -1074 else -1074 + (rg a / 2 ^ 52 - 1 : Nat)
theorem read_mg (a : Nat) (h : rg a < inf) : double.read a = .number (sg a) (mg a) (pl a) := by
  unfold mg pl
  show (if rg a < 2 ^ 52 then Datum.number (sg a) (rg a) (-1074) else if rg a < inf then Datum.number (sg a) (2 ^ 52 + rg a % 2 ^ 52) (-1074 + (rg a / 2 ^ 52 - 1 : Nat)) else _) = _
  by_cases h1 : rg a < 2 ^ 52
  · simp only [if_pos h1]
  · simp only [if_neg h1, if_pos h]
theorem mg_lt (a : Nat) : mg a < 2 ^ 53 := by
  unfold mg
  have := Nat.mod_lt (rg a) (Nat.two_pow_pos 52)
  split <;> omega
theorem mg_zero (a : Nat) : mg a = 0 ↔ rg a = 0 := by
  unfold mg
  split <;> omega
theorem pl_low (a : Nat) : -1074 ≤ pl a := by
  unfold pl
  split <;> omega
theorem pl_high (a : Nat) (h : rg a < inf) : pl a ≤ 971 := by
  unfold pl inf at *
  split <;> omega
theorem mg_big (a : Nat) (h : -1074 < pl a) : 2 ^ 52 ≤ mg a := by
  unfold pl at h
  unfold mg
  split
  · rename_i h1; rw [if_pos h1] at h; omega
  · omega
/-- The sum of two numbers at the lower one's place. -/
def tot (a b : Nat) : Int := signed (sg a) (mg a) (pl a - min (pl a) (pl b)).toNat + signed (sg b) (mg b) (pl b - min (pl a) (pl b)).toNat
theorem addB_fin (a b : Nat) (ha : rg a < inf) (hb : rg b < inf) : addB a b = double.nearest (if tot a b = 0 then sg a && sg b else decide (tot a b < 0)) (tot a b).natAbs (min (pl a) (pl b)) := by
  unfold addB Format.add
  rw [read_mg a ha, read_mg b hb]
  rfl
theorem mulB_fin (a b : Nat) (ha : rg a < inf) (hb : rg b < inf) : mulB a b = double.nearest (sg a ^^ sg b) (mg a * mg b) (pl a + pl b) := by
  unfold mulB Format.mul
  rw [read_mg a ha, read_mg b hb]
  rfl
theorem divB_fin (a b : Nat) (ha : rg a < inf) (hb : rg b < inf) (h0 : mg b ≠ 0) :
    divB a b = double.nearest (sg a ^^ sg b) (2 * (mg a * 2 ^ (54 + (mg b).log2 - (mg a).log2) / mg b) + (mg a * 2 ^ (54 + (mg b).log2 - (mg a).log2) % mg b != 0).toNat) (pl a - pl b - (54 + (mg b).log2 - (mg a).log2 : Nat) - 1) := by
  unfold divB Format.div
  rw [read_mg a ha, read_mg b hb]
  simp only [Datum.quotient, if_neg h0, Option.map_some, Option.getD_some, Format.write, Nat.shiftLeft_eq]
  rfl
theorem sqrtB_fin (a : Nat) (ha : rg a < inf) (hs : sg a = false) (h0 : mg a ≠ 0) (e : Nat) (he : (e : Int) = (108 - (mg a).log2 : Nat) + (pl a - (108 - (mg a).log2 : Nat)) % 2) (r : Nat) (hr : IsRoot r (mg a * 2 ^ e)) :
    sqrtB a = double.nearest false (2 * r + (r * r != mg a * 2 ^ e).toNat) ((pl a - e) / 2 - 1) := by
  unfold sqrtB Format.sqrt
  rw [read_mg a ha, hs]
  have e2 : 2 * (double.fractionBits + 2) - (mg a).log2 + ((pl a - (2 * (double.fractionBits + 2) - (mg a).log2 : Nat)) % 2).toNat = e := by
    show 108 - (mg a).log2 + ((pl a - (108 - (mg a).log2 : Nat)) % 2).toNat = e
    omega
  simp only [Datum.root, if_neg h0, Bool.false_eq_true, if_false, Option.map_some, Option.getD_some, Format.write, e2, Nat.shiftLeft_eq]
  rw [root_one (rootFrom_all _) hr]
theorem inf_word (a : Nat) (h : a < 2 ^ 64) (hi : rg a = inf) : double.write (.infinity (sg a)) = a := by
  show mk (sg a) inf = a
  rw [← hi, mk_of a h]
theorem addB_inf_l (a b : Nat) (h : a < 2 ^ 64) (ha : rg a = inf) (hb : rg b < inf) : addB a b = a := by
  unfold addB Format.add
  rw [read_inf a ha, read_mg b hb]
  exact inf_word a h ha
theorem addB_inf_r (a b : Nat) (h : b < 2 ^ 64) (ha : rg a < inf) (hb : rg b = inf) : addB a b = b := by
  rw [add_comm]; exact addB_inf_l b a h hb ha
theorem word_ext {a b : Nat} (h1 : a < 2 ^ 64) (h2 : b < 2 ^ 64) (hr : rg a = rg b) (hs : sg a = sg b) : a = b := by
  rw [← mk_of a h1, ← mk_of b h2, hr, hs]
theorem addB_inf (a b : Nat) (h : a < 2 ^ 64) (h' : b < 2 ^ 64) (ha : rg a = inf) (hb : rg b = inf) : addB a b = if a = b then a else NAN := by
  unfold addB Format.add
  rw [read_inf a ha, read_inf b hb]
  by_cases e : sg a = sg b
  · rw [if_pos (word_ext h h' (by rw [ha, hb]) e)]
    simp only [Datum.sum, if_pos e, Option.map_some, Option.getD_some]
    exact inf_word a h ha
  · rw [if_neg (fun e2 => e (by rw [e2]))]
    simp only [Datum.sum, if_neg e, Option.map_none, Option.getD_none]
theorem mulB_inf (a b : Nat) (h : rg a = inf ∧ rg b ≤ inf ∨ rg a ≤ inf ∧ rg b = inf) : mulB a b = if rg a = 0 ∨ rg b = 0 then NAN else mk (sg a ^^ sg b) inf := by
  unfold mulB Format.mul
  have h0 : ¬ inf = 0 := by decide
  rcases h with ⟨h1, h2⟩ | ⟨h1, h2⟩
  · rw [read_inf a h1, h1]
    simp only [h0, false_or]
    by_cases e : rg b = inf
    · rw [read_inf b e, e, if_neg h0]; rfl
    · rw [read_mg b (by omega)]
      by_cases e0 : rg b = 0
      · rw [if_pos e0]
        simp only [Datum.product, if_pos ((mg_zero b).2 e0), Option.map_none, Option.getD_none]
      · rw [if_neg e0]
        simp only [Datum.product, if_neg (fun e => e0 ((mg_zero b).1 e)), Option.map_some, Option.getD_some]
        rfl
  · rw [read_inf b h2, h2]
    simp only [h0, or_false]
    by_cases e : rg a = inf
    · rw [read_inf a e, e, if_neg h0]; rfl
    · rw [read_mg a (by omega)]
      by_cases e0 : rg a = 0
      · rw [if_pos e0]
        simp only [Datum.product, if_pos ((mg_zero a).2 e0), Option.map_none, Option.getD_none]
      · rw [if_neg e0]
        simp only [Datum.product, if_neg (fun e => e0 ((mg_zero a).1 e)), Option.map_some, Option.getD_some]
        rw [Bool.xor_comm]
        rfl
theorem divB_edge (a b : Nat) (ha : rg a ≤ inf) (hb : rg b ≤ inf) (h : rg a = inf ∨ rg b = inf ∨ rg b = 0 ∨ rg a = 0) :
    divB a b = if rg a = inf ∧ rg b = inf ∨ rg a = 0 ∧ rg b = 0 then NAN else if rg a = inf ∨ rg b = 0 then mk (sg a ^^ sg b) inf else mk (sg a ^^ sg b) 0 := by
  unfold divB Format.div
  have h0 : ¬ inf = 0 := by decide
  by_cases e1 : rg a = inf
  · rw [read_inf a e1]
    by_cases e2 : rg b = inf
    · rw [read_inf b e2, if_pos (.inl ⟨e1, e2⟩)]; rfl
    · rw [read_mg b (by omega), if_neg (by omega), if_pos (.inl e1)]; rfl
  · rw [read_mg a (by omega)]
    by_cases e2 : rg b = inf
    · rw [read_inf b e2, if_neg (by omega), if_neg (by omega)]
      show double.write (Datum.number _ 0 0) = _
      exact nearest_zero _ _
    · rw [read_mg b (by omega)]
      by_cases e3 : rg b = 0
      · by_cases e4 : rg a = 0
        · rw [if_pos (.inr ⟨e4, e3⟩)]
          simp only [Datum.quotient, if_pos ((mg_zero b).2 e3), if_pos ((mg_zero a).2 e4), Option.map_none, Option.getD_none]
        · rw [if_neg (by omega), if_pos (.inr e3)]
          simp only [Datum.quotient, if_pos ((mg_zero b).2 e3), if_neg (fun e => e4 ((mg_zero a).1 e)), Option.map_some, Option.getD_some]
          rfl
      · have e4 : rg a = 0 := by omega
        rw [if_neg (by omega), if_neg (by omega)]
        simp only [Datum.quotient, if_neg (fun e => e3 ((mg_zero b).1 e)), (mg_zero a).2 e4, Option.map_some, Option.getD_some, Nat.zero_shiftLeft, Nat.zero_div, Nat.zero_mod, Format.write]
        exact nearest_zero _ _
end Go.Proofs.Ytlgnkgcofdjamaa
