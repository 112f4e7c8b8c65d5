/-
  Words of reals: sign and rung; what sums, products, orders of them are. No condition.
-/
import Derived.Test.YtieoiklgoeclaaaGreatFReal
namespace Go.Proofs.YtieoiklgoeclaaaGreat
open Ieee

def inf : Nat := 9218868437227405312
theorem inf_eq : inf = 2047 * 2 ^ 52 := by decide
def sg (x : Nat) : Bool := x / 2 ^ 63 % 2 == 1
def rg (x : Nat) : Nat := x % 2 ^ 63
def mk (s : Bool) (r : Nat) : Nat := if s then 2 ^ 63 + r else r
theorem word_mk (s : Bool) (r : Nat) : double.word s r = mk s r := rfl
theorem sg_mk (s : Bool) (r : Nat) (h : r < 2 ^ 63) : sg (mk s r) = s := by
  unfold sg mk
  cases s
  · rw [if_neg (by simp), Nat.div_eq_of_lt h]; rfl
  · rw [if_pos rfl]
    have : (2 ^ 63 + r) / 2 ^ 63 = 1 := by omega
    rw [this]; rfl
theorem rg_mk (s : Bool) (r : Nat) (h : r < 2 ^ 63) : rg (mk s r) = r := by
  unfold rg mk
  cases s
  · rw [if_neg (by simp)]; exact Nat.mod_eq_of_lt h
  · rw [if_pos rfl]; omega
theorem mk_of (x : Nat) (h : x < 2 ^ 64) : mk (sg x) (rg x) = x := by
  unfold mk sg rg
  by_cases e : x / 2 ^ 63 % 2 = 1
  · rw [if_pos (by simpa using e)]; omega
  · rw [if_neg (by simpa using e)]; omega
theorem rg_lt (x : Nat) : rg x < 2 ^ 63 := Nat.mod_lt _ (Nat.two_pow_pos _)

theorem read_fin (x : Nat) (h : rg x < inf) : ∃ m p, double.read x = .number (sg x) m p ∧ -1074 ≤ p ∧ V (rg x) = m * 2 ^ (p + 1074).toNat := by
  have e0 : double.signWeight = 2 ^ 63 := rfl
  have e1 : double.binade = 2 ^ 52 := rfl
  have e2 : double.infRung = inf := rfl
  have e3 : double.leastPlace = -1074 := rfl
  unfold Format.read
  simp only [e0, e1, e2, e3]
  show ∃ m p, (if rg x < 2 ^ 52 then _ else _) = _ ∧ _
  by_cases h1 : rg x < 2 ^ 52
  · refine ⟨rg x, -1074, ?_, by omega, ?_⟩
    · rw [if_pos h1]; rfl
    · rw [V_low _ h1]; simp
  · refine ⟨2 ^ 52 + rg x % 2 ^ 52, -1074 + (rg x / 2 ^ 52 - 1 : Nat), ?_, by omega, ?_⟩
    · rw [if_neg h1]
      show (if rg x < inf then _ else _) = _
      rw [if_pos h]; rfl
    · have : (-1074 + ((rg x / 2 ^ 52 - 1 : Nat) : Int) + 1074).toNat = rg x / 2 ^ 52 - 1 := by omega
      rw [this]
      unfold V
      rw [if_neg h1]
theorem read_inf (x : Nat) (h : rg x = inf) : double.read x = .infinity (sg x) := by
  unfold Format.read
  show (if rg x < 2 ^ 52 then _ else if rg x < inf then _ else if rg x = inf then _ else _) = _
  rw [h, if_neg (by decide), if_neg (by decide), if_pos rfl]; rfl
theorem read_nan (x : Nat) (h : inf < rg x) : ∃ t, double.read x = .nan (sg x) t := by
  refine ⟨rg x - inf, ?_⟩
  unfold Format.read
  show (if rg x < 2 ^ 52 then _ else if rg x < inf then _ else if rg x = inf then _ else _) = _
  have h1 : ¬ rg x < 2 ^ 52 := by unfold inf at h; omega
  rw [if_neg h1, if_neg (by omega), if_neg (by omega)]; rfl

theorem nearest_rnd (neg : Bool) (mag : Nat) (place : Int) (K : Nat) (h : 0 ≤ place + 1074 + K) :
    double.nearest neg mag place = mk neg (min (rnd (mag * 2 ^ (place + 1074 + K).toNat) K) inf) := by
  by_cases h0 : mag = 0
  · subst h0
    unfold Format.nearest
    rw [if_pos rfl, Nat.zero_mul, rnd_zero, word_mk, Nat.zero_min]
  unfold Format.nearest
  rw [if_neg h0]
  show mk neg (min ((max (place + mag.log2 - 52) (-1074) - -1074).toNat * 2 ^ 52 + Toward.even.cut neg (mag <<< (place - max (place + mag.log2 - 52) (-1074)).toNat) (max (place + mag.log2 - 52) (-1074) - place).toNat) inf) = _
  refine congrArg (fun r => mk neg (min r inf)) ?_
  unfold rnd
  rw [cut_even, log2_scale _ _ h0]
  obtain ⟨l, hl⟩ : ∃ l, l = mag.log2 := ⟨_, rfl⟩
  rw [← hl]
  obtain ⟨e, he⟩ : ∃ e : Nat, (e : Int) = max (place + l - 52) (-1074) + 1074 := ⟨(max (place + l - 52) (-1074) + 1074).toNat, by omega⟩
  have e1 : max (place + (l : Int) - 52) (-1074) = (e : Int) - 1074 := by omega
  rw [e1]
  have e2 : ((e : Int) - 1074 - -1074).toNat = e := by omega
  have e3 : l + (place + 1074 + K).toNat - (52 + K) = e := by omega
  rw [e2, e3]
  congr 1
  rw [Nat.shiftLeft_eq]
  by_cases hc : (e : Int) ≤ place + 1074
  · have x1 : ((e : Int) - 1074 - place).toNat = 0 := by omega
    have x2 : (place + 1074 + K).toNat = (place - ((e : Int) - 1074)).toNat + (K + e) := by omega
    rw [x1, x2, Nat.pow_add, ← Nat.mul_assoc, rhe_exact, rhe_zero]
  · have x1 : (place - ((e : Int) - 1074)).toNat = 0 := by omega
    have x2 : K + e = ((e : Int) - 1074 - place).toNat + (place + 1074 + K).toNat := by omega
    rw [x1, x2, rhe_scale, Nat.pow_zero, Nat.mul_one]

/-! ## What a word is -/
def isNone (x : Nat) : Prop := inf < rg x
instance (x : Nat) : Decidable (isNone x) := inferInstanceAs (Decidable (inf < rg x))
def val (x : Nat) : Int := if sg x then -(V (rg x) : Int) else (V (rg x) : Int)
/-- A number rounded, in units of the least real: its rung. -/
def rr (n : Nat) : Nat := min (rnd n 0) inf
def ofInt (z : Int) (zero : Bool) : Nat := mk (if z = 0 then zero else decide (z < 0)) (rr z.natAbs)

theorem signed_scale (s : Bool) (m a b c : Nat) (h : c = a + b) : (signed s m a) * (2 ^ b : Nat) = if s then -((m * 2 ^ c : Nat) : Int) else ((m * 2 ^ c : Nat) : Int) := by
  subst h
  unfold signed
  rw [Nat.pow_add, ← Nat.mul_assoc, Nat.shiftLeft_eq]
  cases s
  · simp
  · simp [Int.neg_mul]
theorem add_fin (x y : Nat) (hx : rg x < inf) (hy : rg y < inf) : double.add x y = some (ofInt (val x + val y) (sg x && sg y)) := by
  obtain ⟨m, p, e1, hp, hv⟩ := read_fin x hx
  obtain ⟨n, q, e2, hq, hw⟩ := read_fin y hy
  unfold Format.add
  rw [e1, e2]
  simp only [Datum.sum, Option.map_some, Format.write]
  congr 1
  obtain ⟨b, hb⟩ : ∃ b : Nat, (b : Int) = min p q + 1074 := ⟨(min p q + 1074).toNat, by omega⟩
  have z1 := signed_scale (sg x) m (p - min p q).toNat b (p + 1074).toNat (by omega)
  have z2 := signed_scale (sg y) n (q - min p q).toNat b (q + 1074).toNat (by omega)
  rw [← hv] at z1
  rw [← hw] at z2
  have hT : (signed (sg x) m (p - min p q).toNat + signed (sg y) n (q - min p q).toNat) * (2 ^ b : Nat) = val x + val y := by
    rw [Int.add_mul, z1, z2]; rfl
  generalize signed (sg x) m (p - min p q).toNat + signed (sg y) n (q - min p q).toNat = T at hT ⊢
  have hpos : (0 : Int) < ((2 ^ b : Nat) : Int) := by exact_mod_cast Nat.two_pow_pos b
  rw [nearest_rnd _ _ _ 0 (by omega)]
  have hb2 : (min p q + 1074 + ((0 : Nat) : Int)).toNat = b := by omega
  rw [hb2]
  unfold ofInt rr
  have hab : T.natAbs * 2 ^ b = (val x + val y).natAbs := by
    rw [← hT, Int.natAbs_mul, Int.natAbs_natCast]
  rw [hab]
  congr 1
  by_cases h0 : T = 0
  · have : val x + val y = 0 := by rw [← hT, h0, Int.zero_mul]
    rw [if_pos h0, if_pos this]
  · have h1 : val x + val y ≠ 0 := by
      rw [← hT]; exact Int.mul_ne_zero h0 (by omega)
    rw [if_neg h0, if_neg h1]
    rw [decide_eq_decide, ← hT]
    constructor
    · intro h; exact Int.mul_neg_of_neg_of_pos h hpos
    · intro h
      by_cases hn : T < 0
      · exact hn
      · have := Int.mul_nonneg (by omega : 0 ≤ T) (Int.le_of_lt hpos); omega
theorem mul_fin (x y : Nat) (hx : rg x < inf) (hy : rg y < inf) : double.mul x y = some (mk (sg x ^^ sg y) (min (rnd (V (rg x) * V (rg y)) 1074) inf)) := by
  obtain ⟨m, p, e1, hp, hv⟩ := read_fin x hx
  obtain ⟨n, q, e2, hq, hw⟩ := read_fin y hy
  unfold Format.mul
  rw [e1, e2]
  simp only [Datum.product, Option.map_some, Format.write]
  rw [nearest_rnd _ _ _ 1074 (by omega), hv, hw]
  have e : (p + q + 1074 + ((1074 : Nat) : Int)).toNat = (p + 1074).toNat + (q + 1074).toNat := by omega
  rw [e, Nat.pow_add]
  congr 4
  exact Nat.mul_mul_mul_comm ..
theorem order_fin (x y : Nat) (hx : rg x < inf) (hy : rg y < inf) : double.order x y = some (compare (val x) (val y)) := by
  obtain ⟨m, p, e1, hp, hv⟩ := read_fin x hx
  obtain ⟨n, q, e2, hq, hw⟩ := read_fin y hy
  unfold Format.order
  rw [e1, e2]
  simp only [Datum.order]
  congr 1
  obtain ⟨b, hb⟩ : ∃ b : Nat, (b : Int) = min p q + 1074 := ⟨(min p q + 1074).toNat, by omega⟩
  have z1 := signed_scale (sg x) m (p - min p q).toNat b (p + 1074).toNat (by omega)
  have z2 := signed_scale (sg y) n (q - min p q).toNat b (q + 1074).toNat (by omega)
  rw [← hv] at z1
  rw [← hw] at z2
  have hpos : (0 : Int) < ((2 ^ b : Nat) : Int) := by exact_mod_cast Nat.two_pow_pos b
  generalize signed (sg x) m (p - min p q).toNat = S at z1 ⊢
  generalize signed (sg y) n (q - min p q).toNat = T at z2 ⊢
  have v1 : val x = S * (2 ^ b : Nat) := z1.symm
  have v2 : val y = T * (2 ^ b : Nat) := z2.symm
  rw [v1, v2]
  simp only [compare, compareOfLessAndEq]
  have a1 : S * (2 ^ b : Nat) < T * (2 ^ b : Nat) ↔ S < T := ⟨fun h => Int.lt_of_mul_lt_mul_right h (Int.le_of_lt hpos), fun h => Int.mul_lt_mul_of_pos_right h hpos⟩
  have a2 : S * (2 ^ b : Nat) = T * (2 ^ b : Nat) ↔ S = T := ⟨fun h => Int.eq_of_mul_eq_mul_right (by omega) h, fun h => by rw [h]⟩
  by_cases h1 : S < T
  · rw [if_pos h1, if_pos (a1.2 h1)]
  · rw [if_neg h1, if_neg (fun h => h1 (a1.1 h))]
    by_cases h2 : S = T
    · rw [if_pos h2, if_pos (a2.2 h2)]
    · rw [if_neg h2, if_neg (fun h => h2 (a2.1 h))]

/-- Where a real stands; -0 and 0 at one place. -/
def key (x : Nat) : Int := if sg x then -(rg x : Int) else (rg x : Int)
theorem val_lt (x y : Nat) : val x < val y ↔ key x < key y := by
  unfold val key
  have h1 := @V_le (rg x) (rg y)
  have h2 := @V_le (rg y) (rg x)
  have h3 := @V_eq_zero (rg x)
  have h4 := @V_eq_zero (rg y)
  cases sg x <;> cases sg y <;> simp <;> omega
theorem val_eq (x y : Nat) : val x = val y ↔ key x = key y := by
  have h1 := val_lt x y
  have h2 := val_lt y x
  omega
theorem compare_key (x y : Nat) : compare (val x) (val y) = compare (key x) (key y) := by
  simp only [compare, compareOfLessAndEq]
  have h1 := val_lt x y
  have h2 := val_eq x y
  by_cases a : key x < key y
  · rw [if_pos a, if_pos (h1.2 a)]
  · rw [if_neg a, if_neg (fun h => a (h1.1 h))]
    by_cases b : key x = key y
    · rw [if_pos b, if_pos (h2.2 b)]
    · rw [if_neg b, if_neg (fun h => b (h2.1 h))]
theorem cmp_lt {a b : Int} (h : a < b) : compare a b = .lt := by
  simp only [compare, compareOfLessAndEq]; rw [if_pos h]
theorem cmp_gt {a b : Int} (h : b < a) : compare a b = .gt := by
  simp only [compare, compareOfLessAndEq]; rw [if_neg (by omega), if_neg (by omega)]
theorem cmp_eq {a b : Int} (h : a = b) : compare a b = .eq := by
  subst h
  simp [compare, compareOfLessAndEq]
theorem order_some (x y : Nat) (hx : ¬ isNone x) (hy : ¬ isNone y) : double.order x y = some (compare (key x) (key y)) := by
  unfold isNone at hx hy
  by_cases fx : rg x < inf
  · by_cases fy : rg y < inf
    · rw [order_fin x y fx fy, compare_key]
    · obtain ⟨m, p, e1, _⟩ := read_fin x fx
      have e2 := read_inf y (by omega)
      unfold Format.order
      rw [e1, e2]
      simp only [Datum.order]
      congr 1
      have hy2 : rg y = inf := by omega
      unfold key
      rw [hy2]
      cases sg x <;> cases sg y <;> first | (rw [cmp_lt (by simp; omega)]; rfl) | (rw [cmp_gt (by simp; omega)]; rfl)
  · by_cases fy : rg y < inf
    · obtain ⟨m, p, e1, _⟩ := read_fin y fy
      have e2 := read_inf x (by omega)
      unfold Format.order
      rw [e1, e2]
      simp only [Datum.order]
      congr 1
      have hx2 : rg x = inf := by omega
      unfold key
      rw [hx2]
      cases sg x <;> cases sg y <;> first | (rw [cmp_lt (by simp; omega)]; rfl) | (rw [cmp_gt (by simp; omega)]; rfl)
    · have e1 := read_inf x (by omega)
      have e2 := read_inf y (by omega)
      unfold Format.order
      rw [e1, e2]
      simp only [Datum.order]
      congr 1
      have hx2 : rg x = inf := by omega
      have hy2 : rg y = inf := by omega
      unfold key
      rw [hx2, hy2]
      cases sg x <;> cases sg y <;> decide
theorem order_none (x y : Nat) (h : isNone x ∨ isNone y) : double.order x y = none := by
  unfold Format.order
  rcases h with h | h
  · obtain ⟨t, e⟩ := read_nan x h
    rw [e]; rfl
  · obtain ⟨t, e⟩ := read_nan y h
    rw [e]
    cases double.read x <;> rfl
theorem add_none (x y : Nat) (h : isNone x ∨ isNone y) : double.add x y = none := by
  unfold Format.add
  rcases h with h | h
  · obtain ⟨t, e⟩ := read_nan x h
    rw [e]; rfl
  · obtain ⟨t, e⟩ := read_nan y h
    rw [e]
    cases double.read x <;> rfl
theorem mul_none (x y : Nat) (h : isNone x ∨ isNone y) : double.mul x y = none := by
  unfold Format.mul
  rcases h with h | h
  · obtain ⟨t, e⟩ := read_nan x h
    rw [e]; rfl
  · obtain ⟨t, e⟩ := read_nan y h
    rw [e]
    cases double.read x <;> rfl
end Go.Proofs.YtieoiklgoeclaaaGreat
