/-
  Whole numbers as reals, as plain mathematics. No condition but those said.
-/
import Derived.Test.YtlgnkgcofdjamaaSums
namespace Go.Proofs.Ytlgnkgcofdjamaa
open Ieee

/-- One, in units of the least real. -/
def U : Nat := 2 ^ 1074
theorem U_pos : 0 < U := by
  unfold U
  exact Nat.two_pow_pos 1074
theorem two_le (j k : Nat) (h : j ≤ k) : 2 ^ j ≤ 2 ^ k := Nat.pow_le_pow_right (by decide) h
theorem U_le {k : Nat} (h : 1074 ≤ k) : U ≤ 2 ^ k := by
  unfold U
  exact two_le 1074 k h
theorem pow_split (k more h T : Nat) (e : k + more = h + h + T) : 2 ^ k * 2 ^ more = 2 ^ h * 2 ^ h * 2 ^ T := by
  rw [← Nat.pow_add, e, Nat.pow_add, Nat.pow_add]
theorem U_split {more h T : Nat} (e : 1074 + more = h + h + T) : U * 2 ^ more = 2 ^ h * 2 ^ h * 2 ^ T := by
  unfold U
  exact pow_split 1074 more h T e
theorem rnd_scale0 (N k : Nat) : rnd (N * 2 ^ k) k = rnd N 0 := by
  have := rnd_scale N 0 k
  rwa [Nat.zero_add] at this
theorem rnd_U (N : Nat) : rnd (N * U) 1074 = rnd N 0 := by
  unfold U
  exact rnd_scale0 N 1074
theorem two_lt (k l m : Nat) (h : k + l < m) : 2 ^ k * 2 ^ l < 2 ^ m := by
  rw [← Nat.pow_add]
  exact Nat.pow_lt_pow_right (by decide) h
theorem twice_U (a b u : Nat) : a * u * (b * u) = a * b * u * u := by ac_rfl
theorem regroup_U (m k S : Nat) (h : 1 + k + S = 1074 + 200) : 2 * (m * 2 ^ k) * 2 ^ S = m * U * 2 ^ 200 := by
  unfold U
  exact regroup m k S 1074 h
def ofB (n : Int) : Nat := double.nearest (n < 0) n.natAbs 0
theorem ofB_eq (n : Int) : ofB n = ofInt (n * U) false := by
  unfold ofB
  rw [nearest_rnd _ _ _ 0 (by omega)]
  have e : ((0 : Int) + 1074 + ((0 : Nat) : Int)).toNat = 1074 := rfl
  rw [e]
  unfold ofInt rr
  have ha : (n * U).natAbs = n.natAbs * 2 ^ 1074 := by
    rw [Int.natAbs_mul, Int.natAbs_natCast]; rfl
  rw [ha]
  congr 1
  by_cases h0 : n = 0
  · subst h0; rw [Int.zero_mul]; rfl
  · have hne : n * (U : Int) ≠ 0 := Int.mul_ne_zero h0 (by have := U_pos; omega)
    rw [if_neg hne, decide_eq_decide]
    have hp : (0 : Int) < U := by have := U_pos; omega
    constructor
    · intro h; exact Int.mul_neg_of_neg_of_pos h hp
    · intro h
      by_cases hn : n < 0
      · exact hn
      · have := Int.mul_nonneg (by omega : 0 ≤ n) (Int.le_of_lt hp); omega
theorem rr_unit (m : Nat) (h : m ≤ 2 ^ 53) : V (rr (m * U)) = m * U ∧ rr (m * U) < inf := by
  have hv : V (rnd (m * U) 0) = m * U := by
    unfold U
    exact V_rnd (k := 1074) h
  obtain ⟨q, hq, hi⟩ : ∃ q, 53 + 1074 < q ∧ V inf = 2 ^ q := by
    have := V_pow 2046
    rw [show (2046 + 1) * 2 ^ 52 + 0 = inf from by decide] at this
    exact ⟨_, by decide, this⟩
  have hlt : rnd (m * U) 0 < inf := by
    by_cases e : rnd (m * U) 0 < inf
    · exact e
    · exfalso
      have h1 := V_le.2 (show inf ≤ rnd (m * U) 0 by omega)
      rw [hi, hv] at h1
      have h2 : m * U ≤ 2 ^ 53 * U := Nat.mul_le_mul_right _ h
      have h3 : 2 ^ 53 * U < 2 ^ q := by
        unfold U
        exact two_lt 53 1074 q hq
      exact Nat.lt_irrefl _ (Nat.lt_of_le_of_lt (Nat.le_trans h1 h2) h3)
  have e : rr (m * U) = rnd (m * U) 0 := by unfold rr; omega
  rw [e]
  exact ⟨hv, hlt⟩
theorem ofInt_parts (z : Int) (f : Bool) : rg (ofInt z f) = rr z.natAbs ∧ sg (ofInt z f) = (if z = 0 then f else decide (z < 0)) :=
  ⟨rg_mk_le _ _ (rr_le _), sg_mk_le _ _ (rr_le _)⟩
theorem ofB_parts (n : Int) (h : n.natAbs ≤ 2 ^ 53) : val (ofB n) = n * U ∧ rg (ofB n) < inf ∧ sg (ofB n) = decide (n < 0) ∧ V (rg (ofB n)) = n.natAbs * U := by
  have e1 : (n * U).natAbs = n.natAbs * U := by rw [Int.natAbs_mul, Int.natAbs_natCast]
  obtain ⟨h1, h2⟩ := ofInt_parts (n * U) false
  rw [← ofB_eq, e1] at h1
  rw [← ofB_eq] at h2
  obtain ⟨v1, v2⟩ := rr_unit n.natAbs h
  have hp : (0 : Int) < U := by have := U_pos; omega
  have hs : sg (ofB n) = decide (n < 0) := by
    rw [h2]
    by_cases h0 : n = 0
    · subst h0; rw [Int.zero_mul]; rfl
    · rw [if_neg (Int.mul_ne_zero h0 (by omega)), decide_eq_decide]
      constructor
      · intro h
        by_cases hn : n < 0
        · exact hn
        · have := Int.mul_nonneg (by omega : 0 ≤ n) (Int.le_of_lt hp); omega
      · intro h; exact Int.mul_neg_of_neg_of_pos h hp
  refine ⟨?_, by rw [h1]; exact v2, hs, by rw [h1]; exact v1⟩
  unfold val
  rw [h1, v1, hs]
  by_cases hn : n < 0
  · rw [if_pos (by simpa using hn)]
    have : ((n.natAbs * U : Nat) : Int) = -n * U := by
      rw [Int.natCast_mul, show ((n.natAbs : Nat) : Int) = -n by omega]
    rw [this, Int.neg_mul, Int.neg_neg]
  · rw [if_neg (by simpa using hn)]
    have : ((n.natAbs * U : Nat) : Int) = n * U := by
      rw [Int.natCast_mul, show ((n.natAbs : Nat) : Int) = n by omega]
    exact this
theorem none_ofB (n : Int) : ¬ isNone (ofB n) := by
  rw [ofB_eq]; exact none_mk _ _ (rr_le _)
theorem ofB_mono {n m : Int} (h : n ≤ m) : key (ofB n) ≤ key (ofB m) := by
  rw [ofB_eq, ofB_eq]
  exact key_ofInt_mono _ _ (Int.mul_le_mul_of_nonneg_right h (by omega))
theorem ofB_not_less {n m : Int} (h : n < m) : lessB (ofB m) (ofB n) = false := by
  rw [Bool.eq_false_iff]
  intro hl
  have := ((less_key _ _).1 hl).2.2
  have := ofB_mono (Int.le_of_lt h)
  omega
theorem ofB_less {n m : Int} (hn : n.natAbs ≤ 2 ^ 53) (hm : m.natAbs ≤ 2 ^ 53) : lessB (ofB n) (ofB m) = decide (n < m) := by
  rw [Bool.eq_iff_iff, decide_eq_true_eq, less_key, ← val_lt, (ofB_parts n hn).1, (ofB_parts m hm).1]
  have hp : (0 : Int) < U := by have := U_pos; omega
  exact ⟨fun h => Int.lt_of_mul_lt_mul_right h.2.2 (Int.le_of_lt hp), fun h => ⟨none_ofB n, none_ofB m, Int.mul_lt_mul_of_pos_right h hp⟩⟩
theorem ofB_same {n m : Int} (hn : n.natAbs ≤ 2 ^ 53) (hm : m.natAbs ≤ 2 ^ 53) : sameB (ofB n) (ofB m) = decide (n = m) := by
  rw [Bool.eq_iff_iff, decide_eq_true_eq, same_key, ← val_eq, (ofB_parts n hn).1, (ofB_parts m hm).1]
  have hp : (0 : Int) < U := by have := U_pos; omega
  exact ⟨fun h => Int.eq_of_mul_eq_mul_right (by omega) h.2.2, fun h => ⟨none_ofB n, none_ofB m, by rw [h]⟩⟩
theorem ofB_add {n m : Int} (hn : n.natAbs ≤ 2 ^ 53) (hm : m.natAbs ≤ 2 ^ 53) (h0 : n + m ≠ 0) : addB (ofB n) (ofB m) = ofB (n + m) := by
  obtain ⟨v1, f1, _⟩ := ofB_parts n hn
  obtain ⟨v2, f2, _⟩ := ofB_parts m hm
  unfold addB
  rw [add_fin _ _ f1 f2, v1, v2, ← Int.add_mul, ofB_eq (n + m)]
  show ofInt ((n + m) * U) _ = _
  unfold ofInt
  have hne : (n + m) * (U : Int) ≠ 0 := Int.mul_ne_zero h0 (by have := U_pos; omega)
  rw [if_neg hne, if_neg hne]
theorem ofB_mul {n m : Int} (hn : n.natAbs ≤ 2 ^ 26) (hm : m.natAbs ≤ 2 ^ 26) (h0 : n * m ≠ 0) : mulB (ofB n) (ofB m) = ofB (n * m) := by
  obtain ⟨_, f1, s1, v1⟩ := ofB_parts n (by omega)
  obtain ⟨_, f2, s2, v2⟩ := ofB_parts m (by omega)
  unfold mulB
  rw [mul_fin _ _ f1 f2, v1, v2, s1, s2, ofB_eq]
  show mk _ (min (rnd (n.natAbs * U * (m.natAbs * U)) 1074) inf) = _
  rw [twice_U, rnd_U]
  have hp : (0 : Int) < U := by have := U_pos; omega
  have hne : n * m * (U : Int) ≠ 0 := Int.mul_ne_zero h0 (by omega)
  unfold ofInt rr
  rw [if_neg hne, Int.natAbs_mul, Int.natAbs_mul, Int.natAbs_natCast]
  have hn0 : n ≠ 0 := fun e => h0 (by rw [e, Int.zero_mul])
  have hm0 : m ≠ 0 := fun e => h0 (by rw [e, Int.mul_zero])
  have hiff : n * m * (U : Int) < 0 ↔ n * m < 0 := by
    constructor
    · intro h
      by_cases hh : n * m < 0
      · exact hh
      · have := Int.mul_nonneg (by omega : 0 ≤ n * m) (Int.le_of_lt hp); omega
    · intro h; exact Int.mul_neg_of_neg_of_pos h hp
  rw [decide_eq_decide.2 hiff]
  suffices hs : (decide (n < 0) ^^ decide (m < 0)) = decide (n * m < 0) by rw [hs]
  by_cases a : n < 0
  · by_cases b : m < 0
    · have : 0 < n * m := Int.mul_pos_of_neg_of_neg a b
      simp [a, b]; omega
    · have : n * m < 0 := Int.mul_neg_of_neg_of_pos a (by omega)
      simp [a, b, this]
  · by_cases b : m < 0
    · have : n * m < 0 := Int.mul_neg_of_pos_of_neg (by omega) b
      simp [a, b, this]
    · have : 0 < n * m := Int.mul_pos (by omega) (by omega)
      simp [a, b]; omega
theorem sub_self (n : Int) (hn : n.natAbs ≤ 2 ^ 53) : subB (ofB n) (ofB n) = 0 := by
  obtain ⟨v1, f1, _⟩ := ofB_parts n hn
  have hl := none_ofB n
  have hr : rg (ofB n) ≤ inf := by omega
  rw [sub_add]
  have e : negB (ofB n) = mk (!sg (ofB n)) (rg (ofB n)) := by unfold negB; rw [if_neg hl]
  have h1 : rg (negB (ofB n)) = rg (ofB n) := by rw [e]; exact rg_mk_le _ _ hr
  have h2 : sg (negB (ofB n)) = !sg (ofB n) := by rw [e]; exact sg_mk_le _ _ hr
  unfold addB
  rw [add_fin _ _ f1 (by rw [h1]; exact f1)]
  have hv : val (ofB n) + val (negB (ofB n)) = 0 := by
    unfold val
    rw [h1, h2]
    cases sg (ofB n) <;> simp <;> omega
  rw [hv, h2, Bool.and_not_self]
  show ofInt 0 false = 0
  unfold ofInt
  rw [if_pos rfl, Int.natAbs_zero, rr_zero]; rfl

/-! ## Roots of squares -/
theorem rootFrom_spec (n : Nat) : ∀ (todo root : Nat), root * root ≤ n → n < (root + 2 ^ todo) * (root + 2 ^ todo) →
    Datum.rootFrom n todo root * Datum.rootFrom n todo root ≤ n ∧ n < (Datum.rootFrom n todo root + 1) * (Datum.rootFrom n todo root + 1)
  | 0, root, h1, h2 => by
    unfold Datum.rootFrom
    rw [Nat.pow_zero] at h2
    exact ⟨h1, h2⟩
  | todo + 1, root, h1, h2 => by
    unfold Datum.rootFrom
    have e : root + 1 <<< todo = root + 2 ^ todo := by rw [Nat.one_shiftLeft]
    simp only [e]
    by_cases h : (root + 2 ^ todo) * (root + 2 ^ todo) ≤ n
    · rw [if_pos h]
      refine rootFrom_spec n todo _ h ?_
      rw [Nat.pow_add, Nat.pow_one] at h2
      rwa [show root + 2 ^ todo + 2 ^ todo = root + 2 ^ todo * 2 by omega]
    · rw [if_neg h]
      exact rootFrom_spec n todo _ h1 (by omega)
theorem sq_lt {a b : Nat} (h : a * a < b * b) : a < b := by
  by_cases e : a < b
  · exact e
  · have := Nat.mul_le_mul (show b ≤ a by omega) (show b ≤ a by omega); omega
theorem rootFrom_sq (x : Nat) : Datum.rootFrom (x * x) ((x * x).log2 / 2 + 1) 0 = x := by
  obtain ⟨h1, h2⟩ := rootFrom_spec (x * x) ((x * x).log2 / 2 + 1) 0 (by simp) (by
    rw [Nat.zero_add, ← Nat.pow_add]
    refine Nat.lt_of_lt_of_le Nat.lt_log2_self (Nat.pow_le_pow_right (by decide) (by omega)))
  generalize Datum.rootFrom (x * x) ((x * x).log2 / 2 + 1) 0 = r at *
  have a1 : x < r + 1 := sq_lt h2
  have a2 : ¬ x < r := fun h => by
    have := Nat.mul_lt_mul_of_lt_of_le h (Nat.le_of_lt h) (by omega : 0 < r)
    omega
  omega
theorem sqrt_sq (n : Int) (hn : n.natAbs ≤ 2 ^ 26) (h0 : n ≠ 0) : sqrtB (ofB (n * n)) = ofB n.natAbs := by
  have hsq : (n * n).natAbs = n.natAbs * n.natAbs := Int.natAbs_mul ..
  have hle : n.natAbs * n.natAbs ≤ 2 ^ 26 * 2 ^ 26 := Nat.mul_le_mul hn hn
  obtain ⟨_, f1, s1, v1⟩ := ofB_parts (n * n) (by rw [hsq]; omega)
  have hpos : 0 ≤ n * n := by
    rcases Int.le_total 0 n with h | h
    · exact Int.mul_nonneg h h
    · exact Int.mul_nonneg_of_nonpos_of_nonpos h h
  rw [decide_eq_false (by omega)] at s1
  obtain ⟨m, i, e, hp, hv⟩ := read_fin _ f1
  rw [v1, hsq] at hv
  have hm := read_small e
  obtain ⟨a, ha⟩ : ∃ a, a = n.natAbs := ⟨_, rfl⟩
  rw [← ha] at hv hn hle
  have ha0 : 0 < a := by omega
  have hm0 : m ≠ 0 := by
    intro h
    rw [h, Nat.zero_mul] at hv
    have : 0 < a * a * U := Nat.mul_pos (Nat.mul_pos ha0 ha0) U_pos
    omega
  unfold sqrtB Format.sqrt
  rw [e, s1]
  simp only [Datum.root]
  rw [if_neg hm0, if_neg (by decide)]
  obtain ⟨more, hmore⟩ : ∃ more, more = 2 * (double.fractionBits + 2) - m.log2 + ((i - ((2 * (double.fractionBits + 2) - m.log2 : Nat) : Int)) % 2).toNat := ⟨_, rfl⟩
  rw [← hmore]
  have hl : m.log2 ≤ 52 := by
    have := (Nat.log2_lt hm0).2 hm; omega
  have hmore2 : 56 ≤ more ∧ more ≤ 109 := by
    have : (2 * (double.fractionBits + 2)) = 108 := rfl
    rw [this] at hmore
    omega
  have hpar : (i - more) % 2 = 0 := by
    have : (2 * (double.fractionBits + 2)) = 108 := rfl
    rw [this] at hmore
    omega
  have hi : i ≤ 53 := by
    by_cases h : i ≤ 53
    · exact h
    · exfalso
      have h1 : (i + 1074).toNat = 54 + ((i - 54).toNat + 1074) := by omega
      rw [h1, Nat.pow_add] at hv
      have h2 : 1 * (2 ^ 54 * U) ≤ m * (2 ^ 54 * 2 ^ ((i - 54).toNat + 1074)) := Nat.mul_le_mul (by omega) (Nat.mul_le_mul (Nat.le_refl _) (U_le (by omega)))
      rw [← hv, Nat.one_mul] at h2
      have h3 : a * a * U < 2 ^ 54 * U := (Nat.mul_lt_mul_right U_pos).2 (by omega)
      omega
  obtain ⟨h, hh⟩ : ∃ h : Nat, (more : Int) - i = 2 * h := ⟨((more - i) / 2).toNat, by omega⟩
  have hN : m <<< more = (a * 2 ^ h) * (a * 2 ^ h) := by
    rw [Nat.shiftLeft_eq]
    have hp2 : 0 < 2 ^ (i + 1074).toNat := Nat.two_pow_pos _
    apply Nat.eq_of_mul_eq_mul_right hp2
    have e1 : m * 2 ^ more * 2 ^ (i + 1074).toNat = a * a * U * 2 ^ more := by
      rw [hv]; ac_rfl
    have e2 : a * 2 ^ h * (a * 2 ^ h) * 2 ^ (i + 1074).toNat = a * a * (2 ^ h * 2 ^ h * 2 ^ (i + 1074).toNat) := by ac_rfl
    rw [e1, e2, Nat.mul_assoc (a * a)]
    rw [U_split (more := more) (h := h) (T := (i + 1074).toNat) (by omega)]
  rw [hN, rootFrom_sq]
  have hz : (a * 2 ^ h * (a * 2 ^ h) != a * 2 ^ h * (a * 2 ^ h)).toNat = 0 := by simp
  rw [hz, Nat.add_zero]
  show double.nearest false (2 * (a * 2 ^ h)) ((i - more) / 2 - 1) = ofB (n.natAbs : Int)
  rw [← ha, nearest_rnd _ _ _ 200 (by omega), ofB_eq]
  have e3 : 2 * (a * 2 ^ h) * 2 ^ ((i - (more : Int)) / 2 - 1 + 1074 + ((200 : Nat) : Int)).toNat = (a * U) * 2 ^ 200 := by
    exact regroup_U a h ((i - (more : Int)) / 2 - 1 + 1074 + ((200 : Nat) : Int)).toNat (by omega)
  have := rnd_scale (a * U) 0 200
  rw [Nat.zero_add] at this
  rw [e3, this]
  have hab : ((a : Int) * U).natAbs = a * U := by rw [Int.natAbs_mul, Int.natAbs_natCast, Int.natAbs_natCast]
  have hau : 0 < (a : Int) * U := Int.mul_pos (by omega) (by have := U_pos; omega)
  unfold ofInt
  rw [if_neg (by omega), hab, decide_eq_false (by omega)]
  rfl
end Go.Proofs.Ytlgnkgcofdjamaa
