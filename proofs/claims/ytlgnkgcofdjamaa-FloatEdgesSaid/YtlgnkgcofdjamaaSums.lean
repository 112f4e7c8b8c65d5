/-
  What follows of float's sums, products, quotients, roots, as plain mathematics of the bits. No condition but words of 64 bits.
-/
import Derived.Test.YtlgnkgcofdjamaaPlain
namespace Go.Proofs.Ytlgnkgcofdjamaa
open Ieee

theorem rr_V (r : Nat) (h : r ≤ inf) : rr (V r) = r := by unfold rr; rw [rnd_V]; omega
theorem val_abs (a : Nat) : (val a).natAbs = V (rg a) := by
  unfold val; split <;> omega
theorem ofInt_val (a : Nat) (ha : a < 2 ^ 64) (h : ¬ isNone a) (f : Bool) (h0 : rg a ≠ 0) : ofInt (val a) f = a := by
  have hv : V (rg a) ≠ 0 := fun e => h0 (V_eq_zero.1 e)
  have hz : val a ≠ 0 := by unfold val; split <;> omega
  unfold ofInt
  rw [if_neg hz, val_abs, rr_V _ (by unfold isNone at h; omega)]
  have : decide (val a < 0) = sg a := by
    unfold val
    cases sg a
    · simp
    · simp; omega
  rw [this]
  exact mk_of a ha
theorem word_inf (a : Nat) (ha : a < 2 ^ 64) (h : rg a = inf) : mk (sg a) inf = a := by
  rw [← h]; exact mk_of a ha
theorem add_nought (a z : Nat) (ha : a < 2 ^ 64) (hz : rg z = 0) : addB a z = if rg a = 0 then mk (sg a && sg z) 0 else canonB a := by
  have fz : rg z < inf := by rw [hz]; decide
  by_cases na : isNone a
  · have : rg a ≠ 0 := by unfold isNone inf at na; omega
    rw [if_neg this, nan_canon a na]
    unfold addB
    rw [add_none a z (.inl na)]; rfl
  · have hc : canonB a = a := rt_of a na
    by_cases hi : rg a = inf
    · have : rg a ≠ 0 := by rw [hi]; decide
      rw [if_neg this, hc]
      unfold addB
      rw [add_inf_left a z hi fz]
      exact word_inf a ha hi
    · have fa : rg a < inf := by unfold isNone at na; omega
      have vz : val z = 0 := by unfold val; rw [hz, V_zero]; split <;> rfl
      unfold addB
      rw [add_fin a z fa fz, vz, Int.add_zero]
      show ofInt (val a) (sg a && sg z) = _
      by_cases h0 : rg a = 0
      · have va : val a = 0 := by unfold val; rw [h0, V_zero]; split <;> rfl
        rw [if_pos h0, va]
        unfold ofInt
        rw [if_pos rfl, Int.natAbs_zero, rr_zero]
      · rw [if_neg h0, hc]
        exact ofInt_val a ha na _ h0
theorem add_zero (a : Nat) (ha : a < 2 ^ 64) : addB a 0 = if a = 2 ^ 63 then 0 else canonB a := by
  rw [add_nought a 0 ha rfl]
  by_cases h : rg a = 0
  · rw [if_pos h]
    have e := mk_of a ha
    rw [h] at e
    have hn : ¬ isNone a := by unfold isNone; rw [h]; decide
    have hc : canonB a = a := rt_of a hn
    cases hs : sg a
    · rw [hs] at e
      have : a = 0 := e.symm
      subst this; rfl
    · rw [hs] at e
      have : a = 2 ^ 63 := e.symm
      subst this; rfl
  · rw [if_neg h, if_neg]
    intro e
    subst e
    exact h rfl
theorem add_less (a : Nat) (ha : a < 2 ^ 64) : addB a (2 ^ 63) = canonB a := by
  rw [add_nought a (2 ^ 63) ha rfl]
  by_cases h : rg a = 0
  · rw [if_pos h]
    have e := mk_of a ha
    rw [h] at e
    have hn : ¬ isNone a := by unfold isNone; rw [h]; decide
    rw [show canonB a = a from rt_of a hn]
    have : sg (2 ^ 63) = true := rfl
    rw [this, Bool.and_true]
    exact e
  · rw [if_neg h]

def ONE : Nat := 4607182418800017408
theorem ONE_read : double.read ONE = .number false (2 ^ 52) (-52) := by decide
theorem ONE_rg : rg ONE = (1022 + 1) * 2 ^ 52 + 0 := by decide
theorem V_pow (e : Nat) : V ((e + 1) * 2 ^ 52 + 0) = 2 ^ (52 + e) := by
  rw [V_at e 0 (by decide), Nat.add_zero, Nat.pow_add]
theorem regroup (m k S T : Nat) (h : 1 + k + S = T + 200) : 2 * (m * 2 ^ k) * 2 ^ S = m * 2 ^ T * 2 ^ 200 := by
  rw [Nat.mul_assoc m, ← Nat.pow_add, ← h, Nat.pow_add, Nat.pow_add, Nat.pow_one]
  ac_rfl
theorem ONE_V : V (rg ONE) = 2 ^ 1074 := by
  have h := V_pow 1022
  have e : 52 + 1022 = 1074 := rfl
  rw [e, ← ONE_rg] at h
  exact h
theorem mul_one (a : Nat) (ha : a < 2 ^ 64) : mulB a ONE = canonB a := by
  by_cases na : isNone a
  · rw [nan_canon a na]
    unfold mulB
    rw [mul_none a ONE (.inl na)]; rfl
  · rw [show canonB a = a from rt_of a na]
    by_cases hi : rg a = inf
    · unfold mulB Format.mul
      rw [read_inf a hi, ONE_read]
      show mk (sg a ^^ false) inf = a
      rw [Bool.xor_false]
      exact word_inf a ha hi
    · have fa : rg a < inf := by unfold isNone at na; omega
      unfold mulB
      rw [mul_fin a ONE fa (by decide), ONE_V]
      show mk (sg a ^^ sg ONE) (min (rnd (V (rg a) * 2 ^ 1074) 1074) inf) = a
      have := rnd_scale (V (rg a)) 0 1074
      rw [Nat.zero_add] at this
      rw [this, rnd_V, show sg ONE = false from by decide, Bool.xor_false, Nat.min_eq_left (by omega)]
      exact mk_of a ha
theorem read_small {x m : Nat} {s : Bool} {p : Int} (h : double.read x = .number s m p) : m < 2 ^ 53 := by
  unfold Format.read at h
  have e1 : double.binade = 2 ^ 52 := rfl
  simp only [e1] at h
  split at h
  · cases h; omega
  · split at h
    · cases h
      have := Nat.mod_lt (x % double.signWeight) (show 0 < 2 ^ 52 by decide)
      omega
    · split at h <;> cases h
theorem div_one (a : Nat) (ha : a < 2 ^ 64) : divB a ONE = canonB a := by
  by_cases na : isNone a
  · rw [nan_canon a na]
    unfold divB
    rw [div_none a ONE (.inl na)]; rfl
  · rw [show canonB a = a from rt_of a na]
    by_cases hi : rg a = inf
    · unfold divB Format.div
      rw [read_inf a hi, ONE_read]
      show mk (sg a ^^ false) inf = a
      rw [Bool.xor_false]
      exact word_inf a ha hi
    · have fa : rg a < inf := by unfold isNone at na; omega
      obtain ⟨m, i, e, hp, hv⟩ := read_fin a fa
      have hm := read_small e
      unfold divB Format.div
      rw [e, ONE_read]
      have hl52 : (2 ^ 52 : Nat).log2 = 52 := log2_of (by decide) (by decide)
      have hl : m.log2 ≤ 52 := by
        by_cases h0 : m = 0
        · subst h0; decide
        · have := (Nat.log2_lt h0).2 hm; omega
      obtain ⟨k, hk⟩ : ∃ k, double.fractionBits + 2 + (2 ^ 52 : Nat).log2 - m.log2 = 52 + k := ⟨54 - m.log2, by rw [hl52]; show 52 + 2 + 52 - m.log2 = _; omega⟩
      have hk2 : k ≤ 54 := by
        rw [hl52] at hk
        have : 52 + 2 + 52 - m.log2 = 52 + k := hk
        omega
      have hd : m <<< (52 + k) = (m * 2 ^ k) * 2 ^ 52 := by
        rw [Nat.shiftLeft_eq, Nat.add_comm 52 k, Nat.pow_add, Nat.mul_assoc]
      simp only [Datum.quotient]
      rw [if_neg (by decide), hk, hd, Nat.mul_div_cancel _ (by decide), Nat.mul_mod_left]
      show double.nearest (sg a ^^ false) (2 * (m * 2 ^ k) + 0) (i - -52 - ((52 + k : Nat) : Int) - 1) = a
      rw [nearest_rnd _ _ _ 200 (by omega), Nat.add_zero, Bool.xor_false]
      have e2 : 2 * (m * 2 ^ k) * 2 ^ (i - -52 - ((52 + k : Nat) : Int) - 1 + 1074 + ((200 : Nat) : Int)).toNat = V (rg a) * 2 ^ 200 := by
        rw [hv]
        exact regroup m k _ _ (by omega)
      have := rnd_scale (V (rg a)) 0 200
      rw [Nat.zero_add] at this
      rw [e2, this, rnd_V, Nat.min_eq_left (by omega)]
      exact mk_of a ha

/-- What a root is. -/
theorem sqrt_cases (a : Nat) (ha : a < 2 ^ 64) (na : ¬ isNone a) :
    (sg a = true ∧ rg a ≠ 0 ∧ sqrtB a = NAN) ∨ (rg a = 0 ∧ sqrtB a = a) ∨ (sg a = false ∧ ∃ r, r ≤ inf ∧ sqrtB a = mk false r) := by
  by_cases hi : rg a = inf
  · unfold sqrtB Format.sqrt
    rw [read_inf a hi]
    cases hs : sg a
    · exact .inr (.inr ⟨rfl, inf, Nat.le_refl _, rfl⟩)
    · exact .inl ⟨rfl, by rw [hi]; decide, rfl⟩
  · have fa : rg a < inf := by unfold isNone at na; omega
    obtain ⟨m, i, e, hp, hv⟩ := read_fin a fa
    unfold sqrtB Format.sqrt
    rw [e]
    simp only [Datum.root]
    by_cases h0 : m = 0
    · have hr : rg a = 0 := by
        rw [h0, Nat.zero_mul] at hv
        exact V_eq_zero.1 hv
      refine .inr (.inl ⟨hr, ?_⟩)
      rw [if_pos h0, h0]
      show double.nearest (sg a) 0 i = a
      rw [nearest_rnd _ _ _ 0 (by omega), Nat.zero_mul, rnd_zero, Nat.zero_min, ← hr]
      exact mk_of a ha
    · rw [if_neg h0]
      have hr : rg a ≠ 0 := by
        intro h
        rw [h, V_zero] at hv
        have : 0 < m * 2 ^ (i + 1074).toNat := Nat.mul_pos (by omega) (Nat.two_pow_pos _)
        omega
      cases hs : sg a
      · refine .inr (.inr ⟨rfl, ?_⟩)
        rw [if_neg (by decide)]
        obtain ⟨r, h1, h2, _⟩ := write_mk (d := _) (show notNan (.number false _ _) = true from rfl)
        exact ⟨r, h1, h2⟩
      · exact .inl ⟨rfl, hr, rfl⟩
theorem sqrt_not_less (a : Nat) (ha : a < 2 ^ 64) : lessB (sqrtB a) 0 = false := by
  rw [Bool.eq_false_iff]
  intro hl
  obtain ⟨n1, _, hk⟩ := (less_key _ _).1 hl
  have k0 : key 0 = 0 := rfl
  rw [k0] at hk
  by_cases na : isNone a
  · unfold sqrtB at n1
    rw [sqrt_none a na] at n1
    exact n1 none_NAN
  · rcases sqrt_cases a ha na with ⟨_, _, e⟩ | ⟨h, e⟩ | ⟨_, r, hr, e⟩
    · rw [e] at n1; exact n1 none_NAN
    · rw [e] at hk
      unfold key at hk
      rw [h] at hk
      split at hk <;> simp at hk
    · rw [e] at hk
      unfold key at hk
      rw [sg_mk_le _ _ hr, rg_mk_le _ _ hr] at hk
      simp at hk
      omega
theorem less_zero (a : Nat) (na : ¬ isNone a) : lessB a 0 = true ↔ sg a = true ∧ rg a ≠ 0 := by
  rw [less_key]
  have k0 : key 0 = 0 := rfl
  rw [k0]
  unfold key
  refine ⟨fun h => ?_, fun h => ⟨na, by decide, ?_⟩⟩
  · have := h.2.2
    cases hs : sg a
    · rw [hs] at this; simp at this; omega
    · rw [hs] at this; simp at this; exact ⟨rfl, by omega⟩
  · rw [h.1]; simp; omega
theorem sqrt_sign (a : Nat) (ha : a < 2 ^ 64) : lessB a 0 = (decide (sqrtB a = NAN) && !decide (canonB a = NAN)) := by
  by_cases na : isNone a
  · rw [decide_eq_true (nan_canon a na)]
    rw [Bool.not_true, Bool.and_false, Bool.eq_false_iff]
    intro hl
    exact ((less_key _ _).1 hl).1 na
  · have hc : canonB a = a := rt_of a na
    have hne : canonB a ≠ NAN := fun h => na (canon_nan a h)
    rw [decide_eq_false hne, Bool.not_false, Bool.and_true]
    rcases sqrt_cases a ha na with ⟨h1, h2, e⟩ | ⟨h, e⟩ | ⟨h, r, hr, e⟩
    · rw [decide_eq_true e, (less_zero a na).2 ⟨h1, h2⟩]
    · have : sqrtB a ≠ NAN := by rw [e, ← hc]; exact hne
      rw [decide_eq_false this, Bool.eq_false_iff]
      intro hl
      exact ((less_zero a na).1 hl).2 h
    · have : sqrtB a ≠ NAN := by
        rw [e]; intro h2
        exact none_mk false r hr (h2 ▸ none_NAN)
      rw [decide_eq_false this, Bool.eq_false_iff]
      intro hl
      rw [((less_zero a na).1 hl).1] at h
      cases h
end Go.Proofs.Ytlgnkgcofdjamaa
