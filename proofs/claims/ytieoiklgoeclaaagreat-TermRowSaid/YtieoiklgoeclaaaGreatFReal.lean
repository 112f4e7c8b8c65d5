/-
  Reals by their rungs: how an exact number is rounded, as plain mathematics over whole numbers. No condition.
-/
import Derived.Laws.FloatBits
namespace Go.Proofs.YtieoiklgoeclaaaGreat
open Ieee

/-- n / 2^d, rounded to the nearest, of two the even one. -/
def rhe (n d : Nat) : Nat := n / 2 ^ d + (decide (2 ^ d < 2 * (n % 2 ^ d)) || (decide (2 ^ d = 2 * (n % 2 ^ d)) && decide (n / 2 ^ d % 2 = 1))).toNat

theorem rhe_small (n d : Nat) (h : 2 * n < 2 ^ d) : rhe n d = 0 := by
  unfold rhe
  rw [Nat.div_eq_of_lt (by omega), Nat.mod_eq_of_lt (by omega)]
  simp; omega

theorem cut_even (neg : Bool) (n d : Nat) : Toward.even.cut neg n d = rhe n d := by
  have hl : n < 2 ^ (n.log2 + 1) := Nat.lt_log2_self
  by_cases h : d ≤ n.log2 + 2
  · unfold Toward.cut rhe
    simp only [Nat.min_eq_left h, Nat.one_shiftLeft]
    rfl
  · have h2 : 2 ^ (n.log2 + 2) ≤ 2 ^ d := Nat.pow_le_pow_right (by decide) (by omega)
    have h3 : 2 ^ (n.log2 + 2) = 2 * 2 ^ (n.log2 + 1) := by rw [Nat.pow_succ]; omega
    rw [rhe_small n d (by omega)]
    unfold Toward.cut
    simp only [Nat.min_eq_right (by omega : n.log2 + 2 ≤ d), Nat.one_shiftLeft]
    rw [Nat.div_eq_of_lt (by omega), Nat.mod_eq_of_lt (by omega)]
    simp; omega

theorem rhe_zero (n : Nat) : rhe n 0 = n := by
  unfold rhe
  simp [Nat.mod_one]

theorem rhe_scale (n d j : Nat) : rhe (n * 2 ^ j) (d + j) = rhe n d := by
  have hp : 0 < 2 ^ j := Nat.two_pow_pos _
  unfold rhe
  rw [Nat.pow_add, Nat.mul_div_mul_right _ _ hp, Nat.mul_mod_mul_right, ← Nat.mul_assoc 2]
  have e1 : decide (2 ^ d * 2 ^ j < 2 * (n % 2 ^ d) * 2 ^ j) = decide (2 ^ d < 2 * (n % 2 ^ d)) := by
    rw [decide_eq_decide]; exact Nat.mul_lt_mul_right hp
  have e2 : decide (2 ^ d * 2 ^ j = 2 * (n % 2 ^ d) * 2 ^ j) = decide (2 ^ d = 2 * (n % 2 ^ d)) := by
    rw [decide_eq_decide]; exact Nat.mul_left_inj (by omega)
  rw [e1, e2]

theorem rhe_exact (n d : Nat) : rhe (n * 2 ^ d) d = n := by
  have := rhe_scale n 0 d
  rw [Nat.zero_add] at this
  rw [this, rhe_zero]

theorem toNat_le {p q : Bool} (h : p = true → q = true) : p.toNat ≤ q.toNat := by
  cases p
  · exact Nat.zero_le _
  · rw [h rfl]; exact Nat.le_refl _
theorem rhe_mono {n m : Nat} (d : Nat) (h : n ≤ m) : rhe n d ≤ rhe m d := by
  have hp : 0 < 2 ^ d := Nat.two_pow_pos _
  have hq : n / 2 ^ d ≤ m / 2 ^ d := Nat.div_le_div_right h
  unfold rhe
  by_cases e : n / 2 ^ d = m / 2 ^ d
  · have h1 := Nat.div_add_mod n (2 ^ d)
    have h2 := Nat.div_add_mod m (2 ^ d)
    rw [e] at h1 ⊢
    have h3 : n % 2 ^ d ≤ m % 2 ^ d := by omega
    generalize n % 2 ^ d = a at *
    generalize m % 2 ^ d = b at *
    generalize 2 ^ d = c at *
    refine Nat.add_le_add_left (toNat_le ?_) _
    simp only [Bool.or_eq_true, Bool.and_eq_true, decide_eq_true_eq]
    rintro (h | ⟨h, h'⟩)
    · exact .inl (by omega)
    · by_cases e : c = 2 * b
      · exact .inr ⟨e, h'⟩
      · exact .inl (by omega)
  · have : ∀ b : Bool, b.toNat ≤ 1 := fun b => by cases b <;> simp
    have h1 := this (decide (2 ^ d < 2 * (n % 2 ^ d)) || (decide (2 ^ d = 2 * (n % 2 ^ d)) && decide (n / 2 ^ d % 2 = 1)))
    omega

theorem rhe_le {n d m : Nat} (h : n ≤ m * 2 ^ d) : rhe n d ≤ m := by
  have := rhe_mono d h
  rwa [rhe_exact] at this
theorem le_rhe {n d m : Nat} (h : m * 2 ^ d ≤ n) : m ≤ rhe n d := by
  have := rhe_mono d h
  rwa [rhe_exact] at this

theorem log2_scale (n j : Nat) (h : n ≠ 0) : (n * 2 ^ j).log2 = n.log2 + j := by
  have hp : 0 < 2 ^ j := Nat.two_pow_pos _
  have hne : n * 2 ^ j ≠ 0 := by
    have : 0 < n * 2 ^ j := Nat.mul_pos (by omega) hp
    omega
  rw [Nat.log2_eq_iff hne]
  have h1 : 2 ^ n.log2 ≤ n := Nat.log2_self_le h
  have h2 : n < 2 ^ (n.log2 + 1) := Nat.lt_log2_self
  refine ⟨?_, ?_⟩
  · rw [Nat.pow_add]; exact Nat.mul_le_mul_right _ h1
  · rw [show n.log2 + j + 1 = (n.log2 + 1) + j by omega, Nat.pow_add]; exact (Nat.mul_lt_mul_right hp).2 h2
theorem log2_mono {n m : Nat} (h0 : n ≠ 0) (h : n ≤ m) : n.log2 ≤ m.log2 := by
  have h1 : 2 ^ n.log2 ≤ n := Nat.log2_self_le h0
  exact (Nat.le_log2 (by omega)).2 (Nat.le_trans h1 h)

/-- The rung of N / 2^K (in units of the least real). -/
def rnd (N K : Nat) : Nat := (N.log2 - (52 + K)) * 2 ^ 52 + rhe N (K + (N.log2 - (52 + K)))

theorem rnd_zero (K : Nat) : rnd 0 K = 0 := by
  unfold rnd
  rw [rhe_small 0 _ (by simpa using Nat.two_pow_pos _)]
  simp
theorem rnd_scale (N K j : Nat) : rnd (N * 2 ^ j) (K + j) = rnd N K := by
  by_cases h : N = 0
  · subst h; rw [Nat.zero_mul, rnd_zero, rnd_zero]
  · unfold rnd
    rw [log2_scale N j h]
    have e1 : N.log2 + j - (52 + (K + j)) = N.log2 - (52 + K) := by omega
    rw [e1]
    have e2 : K + j + (N.log2 - (52 + K)) = K + (N.log2 - (52 + K)) + j := by omega
    rw [e2, rhe_scale]
theorem rnd_mono {N M : Nat} (K : Nat) (h : N ≤ M) : rnd N K ≤ rnd M K := by
  by_cases h0 : N = 0
  · subst h0; rw [rnd_zero]; exact Nat.zero_le _
  have hl := log2_mono h0 h
  unfold rnd
  generalize e1 : N.log2 - (52 + K) = a
  generalize e2 : M.log2 - (52 + K) = b
  by_cases hab : a = b
  · subst hab
    have := rhe_mono (K + a) h
    omega
  · have hlt : a < b := by omega
    have u : rhe N (K + a) ≤ 2 ^ 53 := by
      refine rhe_le (Nat.le_of_lt (Nat.lt_of_lt_of_le Nat.lt_log2_self ?_))
      rw [← Nat.pow_add]
      exact Nat.pow_le_pow_right (by decide) (by omega)
    have v : 2 ^ 52 ≤ rhe M (K + b) := by
      refine le_rhe (Nat.le_trans ?_ (Nat.log2_self_le (by omega : M ≠ 0)))
      rw [← Nat.pow_add]
      exact Nat.pow_le_pow_right (by decide) (by omega)
    have : a * 2 ^ 52 + 2 ^ 52 ≤ b * 2 ^ 52 := by
      rw [← Nat.succ_mul]; exact Nat.mul_le_mul_right _ hlt
    omega
theorem rnd_mono' {N K M L : Nat} (h : N * 2 ^ L ≤ M * 2 ^ K) : rnd N K ≤ rnd M L := by
  have h1 := rnd_scale N K L
  have h2 := rnd_scale M L K
  rw [Nat.add_comm L K] at h2
  rw [← h1, ← h2]
  exact rnd_mono _ h
theorem rnd_congr {N K M L : Nat} (h : N * 2 ^ L = M * 2 ^ K) : rnd N K = rnd M L :=
  Nat.le_antisymm (rnd_mono' (Nat.le_of_eq h)) (rnd_mono' (Nat.le_of_eq h.symm))

/-- What a rung stands for, in units of the least real. -/
def V (r : Nat) : Nat := if r < 2 ^ 52 then r else (2 ^ 52 + r % 2 ^ 52) * 2 ^ (r / 2 ^ 52 - 1)
theorem V_at (e f : Nat) (h : f < 2 ^ 52) : V ((e + 1) * 2 ^ 52 + f) = (2 ^ 52 + f) * 2 ^ e := by
  unfold V
  have h1 : ¬ (e + 1) * 2 ^ 52 + f < 2 ^ 52 := by
    have : 1 * 2 ^ 52 ≤ (e + 1) * 2 ^ 52 := Nat.mul_le_mul_right _ (by omega)
    omega
  rw [if_neg h1]
  have h2 : ((e + 1) * 2 ^ 52 + f) % 2 ^ 52 = f := by rw [Nat.mul_add_mod_self_right, Nat.mod_eq_of_lt h]
  have h3 : ((e + 1) * 2 ^ 52 + f) / 2 ^ 52 = e + 1 := by rw [Nat.add_comm, Nat.add_mul_div_right _ _ (Nat.two_pow_pos _), Nat.div_eq_of_lt h, Nat.zero_add]
  rw [h2, h3, Nat.add_sub_cancel]
theorem V_low (r : Nat) (h : r < 2 ^ 52) : V r = r := by unfold V; rw [if_pos h]
theorem rung_cases (r : Nat) : r < 2 ^ 52 ∨ ∃ e f, f < 2 ^ 52 ∧ r = (e + 1) * 2 ^ 52 + f := by
  by_cases h : r < 2 ^ 52
  · exact .inl h
  · refine .inr ⟨r / 2 ^ 52 - 1, r % 2 ^ 52, Nat.mod_lt _ (Nat.two_pow_pos _), ?_⟩
    have h1 := Nat.div_add_mod r (2 ^ 52)
    have h2 : 1 ≤ r / 2 ^ 52 := by omega
    rw [Nat.sub_add_cancel h2, Nat.mul_comm]
    exact h1.symm
theorem V_succ (r : Nat) : V r < V (r + 1) := by
  rcases rung_cases r with h | ⟨e, f, h, rfl⟩
  · rw [V_low r h]
    by_cases h1 : r + 1 < 2 ^ 52
    · rw [V_low _ h1]; omega
    · obtain rfl : r = 2 ^ 52 - 1 := by omega
      have := V_at 0 0 (by decide)
      simp at this ⊢
      rw [this]; decide
  · rw [V_at e f h]
    by_cases h1 : f + 1 < 2 ^ 52
    · have := V_at e (f + 1) h1
      rw [← Nat.add_assoc] at this
      rw [this]
      exact (Nat.mul_lt_mul_right (Nat.two_pow_pos _)).2 (by omega)
    · obtain rfl : f = 2 ^ 52 - 1 := by omega
      have := V_at (e + 1) 0 (by decide)
      have e1 : (e + 1) * 2 ^ 52 + (2 ^ 52 - 1) + 1 = (e + 1 + 1) * 2 ^ 52 + 0 := by omega
      rw [e1, this, show 2 ^ (e + 1) = 2 * 2 ^ e by rw [Nat.pow_add, Nat.pow_one, Nat.mul_comm], ← Nat.mul_assoc]
      exact (Nat.mul_lt_mul_right (Nat.two_pow_pos _)).2 (by decide)
theorem V_lt {r s : Nat} (h : r < s) : V r < V s := by
  induction s with
  | zero => omega
  | succ s ih =>
    by_cases e : r = s
    · subst e; exact V_succ r
    · exact Nat.lt_trans (ih (by omega)) (V_succ s)
theorem V_le {r s : Nat} : V r ≤ V s ↔ r ≤ s := by
  refine ⟨fun h => ?_, fun h => ?_⟩
  · by_cases e : r ≤ s
    · exact e
    · have := V_lt (show s < r by omega); omega
  · by_cases e : r = s
    · rw [e]; exact Nat.le_refl _
    · exact Nat.le_of_lt (V_lt (by omega))
theorem V_inj {r s : Nat} (h : V r = V s) : r = s :=
  Nat.le_antisymm (V_le.1 (Nat.le_of_eq h)) (V_le.1 (Nat.le_of_eq h.symm))
theorem V_zero : V 0 = 0 := by rw [V_low 0 (by decide)]
theorem V_eq_zero {r : Nat} : V r = 0 ↔ r = 0 := ⟨fun h => V_inj (h.trans V_zero.symm), fun h => by rw [h, V_zero]⟩

theorem log2_of {n k : Nat} (h1 : 2 ^ k ≤ n) (h2 : n < 2 ^ (k + 1)) : n.log2 = k := by
  have : n ≠ 0 := by have := Nat.two_pow_pos k; omega
  exact (Nat.log2_eq_iff this).2 ⟨h1, h2⟩
theorem rnd_V (r : Nat) : rnd (V r) 0 = r := by
  rcases rung_cases r with h | ⟨e, f, h, rfl⟩
  · rw [V_low r h]
    unfold rnd
    have : r.log2 - (52 + 0) = 0 := by
      by_cases h0 : r = 0
      · subst h0; rfl
      · have : r.log2 < 52 := (Nat.log2_lt h0).2 h
        omega
    rw [this, Nat.zero_mul, Nat.zero_add, Nat.zero_add, rhe_zero]
  · rw [V_at e f h]
    unfold rnd
    have hl : ((2 ^ 52 + f) * 2 ^ e).log2 = 52 + e := by
      rw [log2_scale _ _ (by omega), log2_of (k := 52) (by omega) (by omega)]
    have e1 : 52 + e - (52 + 0) = e := by omega
    rw [hl, e1, Nat.zero_add, rhe_exact, Nat.add_mul]
    omega
/-- What the rung stands for, if nothing is lost. -/
theorem V_rnd {m k : Nat} (h : m ≤ 2 ^ 53) : V (rnd (m * 2 ^ k) 0) = m * 2 ^ k := by
  suffices H : ∀ m k, m < 2 ^ 53 → ∃ r, V r = m * 2 ^ k by
    have : ∃ r, V r = m * 2 ^ k := by
      by_cases e : m = 2 ^ 53
      · obtain ⟨r, hr⟩ := H (2 ^ 52) (k + 1) (by decide)
        refine ⟨r, ?_⟩
        rw [hr, e, show 2 ^ (k + 1) = 2 * 2 ^ k by rw [Nat.pow_add, Nat.pow_one, Nat.mul_comm], ← Nat.mul_assoc]
      · exact H m k (by omega)
    obtain ⟨r, hr⟩ := this
    rw [← hr, rnd_V]
  intro m k hm
  induction k generalizing m with
  | zero =>
    by_cases h1 : m < 2 ^ 52
    · exact ⟨m, by rw [V_low m h1, Nat.pow_zero, Nat.mul_one]⟩
    · exact ⟨(0 + 1) * 2 ^ 52 + (m - 2 ^ 52), by rw [V_at 0 _ (by omega), show 2 ^ 52 + (m - 2 ^ 52) = m by omega]⟩
  | succ k ih =>
    by_cases h1 : m < 2 ^ 52
    · obtain ⟨r, hr⟩ := ih (2 * m) (by omega)
      exact ⟨r, by rw [hr, show 2 ^ (k + 1) = 2 * 2 ^ k by rw [Nat.pow_add, Nat.pow_one, Nat.mul_comm], ← Nat.mul_assoc, Nat.mul_comm m 2]⟩
    · exact ⟨(k + 1 + 1) * 2 ^ 52 + (m - 2 ^ 52), by rw [V_at (k + 1) _ (by omega), show 2 ^ 52 + (m - 2 ^ 52) = m by omega]⟩
end Go.Proofs.YtieoiklgoeclaaaGreat
