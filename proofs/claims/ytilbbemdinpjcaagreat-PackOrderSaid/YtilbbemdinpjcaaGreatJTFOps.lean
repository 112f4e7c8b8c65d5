/-
  What each call of float tells, as plain functions of the bits; and what follows of them. No condition but words of 64 bits.
-/
import Derived.Laws.FloatBits
namespace Go.Proofs.YtilbbemdinpjcaaGreat.T
open Ieee

/-- n / 2^d, rounded to the nearest, of two the even one. -/
def rhe (n d : Nat) : Nat := n / 2 ^ d + (decide (2 ^ d < 2 * (n % 2 ^ d)) || (decide (2 ^ d = 2 * (n % 2 ^ d)) && decide (n / 2 ^ d % 2 = 1))).toNat

theorem rhe_small (n d : Nat) (h : 2 * n < 2 ^ d) : rhe n d = 0 := by
  unfold rhe
  rw [Nat.div_eq_of_lt (by omega), Nat.mod_eq_of_lt (by omega)]
  simp; omega

theorem cut_even (neg : Bool) (n d : Nat) : Toward.even.cut neg n d = rhe n d := by
  have hl : n < 2 ^ (n.log2 + 1) := Nat.lt_log2_self
  by_cases h : d ≤ n.log2 + 2
  · unfold Toward.cut rhe
    simp only [Nat.min_eq_left h, Nat.one_shiftLeft]
    rfl
  · have h2 : 2 ^ (n.log2 + 2) ≤ 2 ^ d := Nat.pow_le_pow_right (by decide) (by omega)
    have h3 : 2 ^ (n.log2 + 2) = 2 * 2 ^ (n.log2 + 1) := by rw [Nat.pow_succ]; omega
    rw [rhe_small n d (by omega)]
    unfold Toward.cut
    simp only [Nat.min_eq_right (by omega : n.log2 + 2 ≤ d), Nat.one_shiftLeft]
    rw [Nat.div_eq_of_lt (by omega), Nat.mod_eq_of_lt (by omega)]
    simp; omega

theorem rhe_zero (n : Nat) : rhe n 0 = n := by
  unfold rhe
  simp [Nat.mod_one]

theorem rhe_scale (n d j : Nat) : rhe (n * 2 ^ j) (d + j) = rhe n d := by
  have hp : 0 < 2 ^ j := Nat.two_pow_pos _
  unfold rhe
  rw [Nat.pow_add, Nat.mul_div_mul_right _ _ hp, Nat.mul_mod_mul_right, ← Nat.mul_assoc 2]
  have e1 : decide (2 ^ d * 2 ^ j < 2 * (n % 2 ^ d) * 2 ^ j) = decide (2 ^ d < 2 * (n % 2 ^ d)) := by
    rw [decide_eq_decide]; exact Nat.mul_lt_mul_right hp
  have e2 : decide (2 ^ d * 2 ^ j = 2 * (n % 2 ^ d) * 2 ^ j) = decide (2 ^ d = 2 * (n % 2 ^ d)) := by
    rw [decide_eq_decide]; exact Nat.mul_left_inj (by omega)
  rw [e1, e2]

theorem rhe_exact (n d : Nat) : rhe (n * 2 ^ d) d = n := by
  have := rhe_scale n 0 d
  rw [Nat.zero_add] at this
  rw [this, rhe_zero]

theorem toNat_le {p q : Bool} (h : p = true → q = true) : p.toNat ≤ q.toNat := by
  cases p
  · exact Nat.zero_le _
  · rw [h rfl]; exact Nat.le_refl _
theorem rhe_mono {n m : Nat} (d : Nat) (h : n ≤ m) : rhe n d ≤ rhe m d := by
  have hp : 0 < 2 ^ d := Nat.two_pow_pos _
  have hq : n / 2 ^ d ≤ m / 2 ^ d := Nat.div_le_div_right h
  unfold rhe
  by_cases e : n / 2 ^ d = m / 2 ^ d
  · have h1 := Nat.div_add_mod n (2 ^ d)
    have h2 := Nat.div_add_mod m (2 ^ d)
    rw [e] at h1 ⊢
    have h3 : n % 2 ^ d ≤ m % 2 ^ d := by omega
    generalize n % 2 ^ d = a at *
    generalize m % 2 ^ d = b at *
    generalize 2 ^ d = c at *
    refine Nat.add_le_add_left (toNat_le ?_) _
    simp only [Bool.or_eq_true, Bool.and_eq_true, decide_eq_true_eq]
    rintro (h | ⟨h, h'⟩)
    · exact .inl (by omega)
    · by_cases e : c = 2 * b
      · exact .inr ⟨e, h'⟩
      · exact .inl (by omega)
  · have : ∀ b : Bool, b.toNat ≤ 1 := fun b => by cases b <;> simp
    have h1 := this (decide (2 ^ d < 2 * (n % 2 ^ d)) || (decide (2 ^ d = 2 * (n % 2 ^ d)) && decide (n / 2 ^ d % 2 = 1)))
    omega

theorem rhe_le {n d m : Nat} (h : n ≤ m * 2 ^ d) : rhe n d ≤ m := by
  have := rhe_mono d h
  rwa [rhe_exact] at this
theorem le_rhe {n d m : Nat} (h : m * 2 ^ d ≤ n) : m ≤ rhe n d := by
  have := rhe_mono d h
  rwa [rhe_exact] at this

theorem log2_scale (n j : Nat) (h : n ≠ 0) : (n * 2 ^ j).log2 = n.log2 + j := by
  have hp : 0 < 2 ^ j := Nat.two_pow_pos _
  have hne : n * 2 ^ j ≠ 0 := by
    have : 0 < n * 2 ^ j := Nat.mul_pos (by omega) hp
    omega
  rw [Nat.log2_eq_iff hne]
  have h1 : 2 ^ n.log2 ≤ n := Nat.log2_self_le h
  have h2 : n < 2 ^ (n.log2 + 1) := Nat.lt_log2_self
  refine ⟨?_, ?_⟩
  · rw [Nat.pow_add]; exact Nat.mul_le_mul_right _ h1
  · rw [show n.log2 + j + 1 = (n.log2 + 1) + j by omega, Nat.pow_add]; exact (Nat.mul_lt_mul_right hp).2 h2
theorem log2_mono {n m : Nat} (h0 : n ≠ 0) (h : n ≤ m) : n.log2 ≤ m.log2 := by
  have h1 : 2 ^ n.log2 ≤ n := Nat.log2_self_le h0
  exact (Nat.le_log2 (by omega)).2 (Nat.le_trans h1 h)

/-- The rung of N / 2^K (in units of the least real). -/
def rnd (N K : Nat) : Nat := (N.log2 - (52 + K)) * 2 ^ 52 + rhe N (K + (N.log2 - (52 + K)))

theorem rnd_zero (K : Nat) : rnd 0 K = 0 := by
  unfold rnd
  rw [rhe_small 0 _ (by simpa using Nat.two_pow_pos _)]
  simp
theorem rnd_scale (N K j : Nat) : rnd (N * 2 ^ j) (K + j) = rnd N K := by
  by_cases h : N = 0
  · subst h; rw [Nat.zero_mul, rnd_zero, rnd_zero]
  · unfold rnd
    rw [log2_scale N j h]
    have e1 : N.log2 + j - (52 + (K + j)) = N.log2 - (52 + K) := by omega
    rw [e1]
    have e2 : K + j + (N.log2 - (52 + K)) = K + (N.log2 - (52 + K)) + j := by omega
    rw [e2, rhe_scale]
theorem rnd_mono {N M : Nat} (K : Nat) (h : N ≤ M) : rnd N K ≤ rnd M K := by
  by_cases h0 : N = 0
  · subst h0; rw [rnd_zero]; exact Nat.zero_le _
  have hl := log2_mono h0 h
  unfold rnd
  generalize e1 : N.log2 - (52 + K) = a
  generalize e2 : M.log2 - (52 + K) = b
  by_cases hab : a = b
  · subst hab
    have := rhe_mono (K + a) h
    omega
  · have hlt : a < b := by omega
    have u : rhe N (K + a) ≤ 2 ^ 53 := by
      refine rhe_le (Nat.le_of_lt (Nat.lt_of_lt_of_le Nat.lt_log2_self ?_))
      rw [← Nat.pow_add]
      exact Nat.pow_le_pow_right (by decide) (by omega)
    have v : 2 ^ 52 ≤ rhe M (K + b) := by
      refine le_rhe (Nat.le_trans ?_ (Nat.log2_self_le (by omega : M ≠ 0)))
      rw [← Nat.pow_add]
      exact Nat.pow_le_pow_right (by decide) (by omega)
    have : a * 2 ^ 52 + 2 ^ 52 ≤ b * 2 ^ 52 := by
      rw [← Nat.succ_mul]; exact Nat.mul_le_mul_right _ hlt
    omega
theorem rnd_mono' {N K M L : Nat} (h : N * 2 ^ L ≤ M * 2 ^ K) : rnd N K ≤ rnd M L := by
  have h1 := rnd_scale N K L
  have h2 := rnd_scale M L K
  rw [Nat.add_comm L K] at h2
  rw [← h1, ← h2]
  exact rnd_mono _ h
theorem rnd_congr {N K M L : Nat} (h : N * 2 ^ L = M * 2 ^ K) : rnd N K = rnd M L :=
  Nat.le_antisymm (rnd_mono' (Nat.le_of_eq h)) (rnd_mono' (Nat.le_of_eq h.symm))

/-- What a rung stands for, in units of the least real. -/
def V (r : Nat) : Nat := if r < 2 ^ 52 then r else (2 ^ 52 + r % 2 ^ 52) * 2 ^ (r / 2 ^ 52 - 1)
theorem V_at (e f : Nat) (h : f < 2 ^ 52) : V ((e + 1) * 2 ^ 52 + f) = (2 ^ 52 + f) * 2 ^ e := by
  unfold V
  have h1 : ¬ (e + 1) * 2 ^ 52 + f < 2 ^ 52 := by
    have : 1 * 2 ^ 52 ≤ (e + 1) * 2 ^ 52 := Nat.mul_le_mul_right _ (by omega)
    omega
  rw [if_neg h1]
  have h2 : ((e + 1) * 2 ^ 52 + f) % 2 ^ 52 = f := by rw [Nat.mul_add_mod_self_right, Nat.mod_eq_of_lt h]
  have h3 : ((e + 1) * 2 ^ 52 + f) / 2 ^ 52 = e + 1 := by rw [Nat.add_comm, Nat.add_mul_div_right _ _ (Nat.two_pow_pos _), Nat.div_eq_of_lt h, Nat.zero_add]
  rw [h2, h3, Nat.add_sub_cancel]
theorem V_low (r : Nat) (h : r < 2 ^ 52) : V r = r := by unfold V; rw [if_pos h]
theorem rung_cases (r : Nat) : r < 2 ^ 52 ∨ ∃ e f, f < 2 ^ 52 ∧ r = (e + 1) * 2 ^ 52 + f := by
  by_cases h : r < 2 ^ 52
  · exact .inl h
  · refine .inr ⟨r / 2 ^ 52 - 1, r % 2 ^ 52, Nat.mod_lt _ (Nat.two_pow_pos _), ?_⟩
    have h1 := Nat.div_add_mod r (2 ^ 52)
    have h2 : 1 ≤ r / 2 ^ 52 := by omega
    rw [Nat.sub_add_cancel h2, Nat.mul_comm]
    exact h1.symm
theorem V_succ (r : Nat) : V r < V (r + 1) := by
  rcases rung_cases r with h | ⟨e, f, h, rfl⟩
  · rw [V_low r h]
    by_cases h1 : r + 1 < 2 ^ 52
    · rw [V_low _ h1]; omega
    · obtain rfl : r = 2 ^ 52 - 1 := by omega
      have := V_at 0 0 (by decide)
      simp at this ⊢
      rw [this]; decide
  · rw [V_at e f h]
    by_cases h1 : f + 1 < 2 ^ 52
    · have := V_at e (f + 1) h1
      rw [← Nat.add_assoc] at this
      rw [this]
      exact (Nat.mul_lt_mul_right (Nat.two_pow_pos _)).2 (by omega)
    · obtain rfl : f = 2 ^ 52 - 1 := by omega
      have := V_at (e + 1) 0 (by decide)
      have e1 : (e + 1) * 2 ^ 52 + (2 ^ 52 - 1) + 1 = (e + 1 + 1) * 2 ^ 52 + 0 := by omega
      rw [e1, this, show 2 ^ (e + 1) = 2 * 2 ^ e by rw [Nat.pow_add, Nat.pow_one, Nat.mul_comm], ← Nat.mul_assoc]
      exact (Nat.mul_lt_mul_right (Nat.two_pow_pos _)).2 (by decide)
theorem V_lt {r s : Nat} (h : r < s) : V r < V s := by
  induction s with
  | zero => omega
  | succ s ih =>
    by_cases e : r = s
    · subst e; exact V_succ r
    · exact Nat.lt_trans (ih (by omega)) (V_succ s)
theorem V_le {r s : Nat} : V r ≤ V s ↔ r ≤ s := by
  refine ⟨fun h => ?_, fun h => ?_⟩
  · by_cases e : r ≤ s
    · exact e
    · have := V_lt (show s < r by omega); omega
  · by_cases e : r = s
    · rw [e]; exact Nat.le_refl _
    · exact Nat.le_of_lt (V_lt (by omega))
theorem V_inj {r s : Nat} (h : V r = V s) : r = s :=
  Nat.le_antisymm (V_le.1 (Nat.le_of_eq h)) (V_le.1 (Nat.le_of_eq h.symm))
theorem V_zero : V 0 = 0 := by rw [V_low 0 (by decide)]
theorem V_eq_zero {r : Nat} : V r = 0 ↔ r = 0 := ⟨fun h => V_inj (h.trans V_zero.symm), fun h => by rw [h, V_zero]⟩

theorem log2_of {n k : Nat} (h1 : 2 ^ k ≤ n) (h2 : n < 2 ^ (k + 1)) : n.log2 = k := by
  have : n ≠ 0 := by have := Nat.two_pow_pos k; omega
  exact (Nat.log2_eq_iff this).2 ⟨h1, h2⟩
theorem rnd_V (r : Nat) : rnd (V r) 0 = r := by
  rcases rung_cases r with h | ⟨e, f, h, rfl⟩
  · rw [V_low r h]
    unfold rnd
    have : r.log2 - (52 + 0) = 0 := by
      by_cases h0 : r = 0
      · subst h0; rfl
      · have : r.log2 < 52 := (Nat.log2_lt h0).2 h
        omega
    rw [this, Nat.zero_mul, Nat.zero_add, Nat.zero_add, rhe_zero]
  · rw [V_at e f h]
    unfold rnd
    have hl : ((2 ^ 52 + f) * 2 ^ e).log2 = 52 + e := by
      rw [log2_scale _ _ (by omega), log2_of (k := 52) (by omega) (by omega)]
    have e1 : 52 + e - (52 + 0) = e := by omega
    rw [hl, e1, Nat.zero_add, rhe_exact, Nat.add_mul]
    omega
/-- What the rung stands for, if nothing is lost. -/
theorem V_rnd {m k : Nat} (h : m ≤ 2 ^ 53) : V (rnd (m * 2 ^ k) 0) = m * 2 ^ k := by
  suffices H : ∀ m k, m < 2 ^ 53 → ∃ r, V r = m * 2 ^ k by
    have : ∃ r, V r = m * 2 ^ k := by
      by_cases e : m = 2 ^ 53
      · obtain ⟨r, hr⟩ := H (2 ^ 52) (k + 1) (by decide)
        refine ⟨r, ?_⟩
        rw [hr, e, show 2 ^ (k + 1) = 2 * 2 ^ k by rw [Nat.pow_add, Nat.pow_one, Nat.mul_comm], ← Nat.mul_assoc]
      · exact H m k (by omega)
    obtain ⟨r, hr⟩ := this
    rw [← hr, rnd_V]
  intro m k hm
  induction k generalizing m with
  | zero =>
    by_cases h1 : m < 2 ^ 52
    · exact ⟨m, by rw [V_low m h1, Nat.pow_zero, Nat.mul_one]⟩
    · exact ⟨(0 + 1) * 2 ^ 52 + (m - 2 ^ 52), by rw [V_at 0 _ (by omega), show 2 ^ 52 + (m - 2 ^ 52) = m by omega]⟩
  | succ k ih =>
    by_cases h1 : m < 2 ^ 52
    · obtain ⟨r, hr⟩ := ih (2 * m) (by omega)
      exact ⟨r, by rw [hr, show 2 ^ (k + 1) = 2 * 2 ^ k by rw [Nat.pow_add, Nat.pow_one, Nat.mul_comm], ← Nat.mul_assoc, Nat.mul_comm m 2]⟩
    · exact ⟨(k + 1 + 1) * 2 ^ 52 + (m - 2 ^ 52), by rw [V_at (k + 1) _ (by omega), show 2 ^ 52 + (m - 2 ^ 52) = m by omega]⟩
end Go.Proofs.YtilbbemdinpjcaaGreat.T
namespace Go.Proofs.YtilbbemdinpjcaaGreat.T
open Ieee

def inf : Nat := 9218868437227405312
theorem inf_eq : inf = 2047 * 2 ^ 52 := by decide
def sg (x : Nat) : Bool := x / 2 ^ 63 % 2 == 1
def rg (x : Nat) : Nat := x % 2 ^ 63
def mk (s : Bool) (r : Nat) : Nat := if s then 2 ^ 63 + r else r
theorem word_mk (s : Bool) (r : Nat) : double.word s r = mk s r := rfl
theorem sg_mk (s : Bool) (r : Nat) (h : r < 2 ^ 63) : sg (mk s r) = s := by
  unfold sg mk
  cases s
  · rw [if_neg (by simp), Nat.div_eq_of_lt h]; rfl
  · rw [if_pos rfl]
    have : (2 ^ 63 + r) / 2 ^ 63 = 1 := by omega
    rw [this]; rfl
theorem rg_mk (s : Bool) (r : Nat) (h : r < 2 ^ 63) : rg (mk s r) = r := by
  unfold rg mk
  cases s
  · rw [if_neg (by simp)]; exact Nat.mod_eq_of_lt h
  · rw [if_pos rfl]; omega
theorem mk_of (x : Nat) (h : x < 2 ^ 64) : mk (sg x) (rg x) = x := by
  unfold mk sg rg
  by_cases e : x / 2 ^ 63 % 2 = 1
  · rw [if_pos (by simpa using e)]; omega
  · rw [if_neg (by simpa using e)]; omega
theorem rg_lt (x : Nat) : rg x < 2 ^ 63 := Nat.mod_lt _ (Nat.two_pow_pos _)

theorem read_fin (x : Nat) (h : rg x < inf) : ∃ m p, double.read x = .number (sg x) m p ∧ -1074 ≤ p ∧ V (rg x) = m * 2 ^ (p + 1074).toNat := by
  have e0 : double.signWeight = 2 ^ 63 := rfl
  have e1 : double.binade = 2 ^ 52 := rfl
  have e2 : double.infRung = inf := rfl
  have e3 : double.leastPlace = -1074 := rfl
  unfold Format.read
  simp only [e0, e1, e2, e3]
  show ∃ m p, (if rg x < 2 ^ 52 then _ else _) = _ ∧ _
  by_cases h1 : rg x < 2 ^ 52
  · refine ⟨rg x, -1074, ?_, by omega, ?_⟩
    · rw [if_pos h1]; rfl
    · rw [V_low _ h1]; simp
  · refine ⟨2 ^ 52 + rg x % 2 ^ 52, -1074 + (rg x / 2 ^ 52 - 1 : Nat), ?_, by omega, ?_⟩
    · rw [if_neg h1]
      show (if rg x < inf then _ else _) = _
      rw [if_pos h]; rfl
    · have : (-1074 + ((rg x / 2 ^ 52 - 1 : Nat) : Int) + 1074).toNat = rg x / 2 ^ 52 - 1 := by omega
      rw [this]
      unfold V
      rw [if_neg h1]
theorem read_inf (x : Nat) (h : rg x = inf) : double.read x = .infinity (sg x) := by
  unfold Format.read
  show (if rg x < 2 ^ 52 then _ else if rg x < inf then _ else if rg x = inf then _ else _) = _
  rw [h, if_neg (by decide), if_neg (by decide), if_pos rfl]; rfl
theorem read_nan (x : Nat) (h : inf < rg x) : ∃ t, double.read x = .nan (sg x) t := by
  refine ⟨rg x - inf, ?_⟩
  unfold Format.read
  show (if rg x < 2 ^ 52 then _ else if rg x < inf then _ else if rg x = inf then _ else _) = _
  have h1 : ¬ rg x < 2 ^ 52 := by unfold inf at h; omega
  rw [if_neg h1, if_neg (by omega), if_neg (by omega)]; rfl

theorem nearest_rnd (neg : Bool) (mag : Nat) (place : Int) (K : Nat) (h : 0 ≤ place + 1074 + K) :
    double.nearest neg mag place = mk neg (min (rnd (mag * 2 ^ (place + 1074 + K).toNat) K) inf) := by
  by_cases h0 : mag = 0
  · subst h0
    unfold Format.nearest
    rw [if_pos rfl, Nat.zero_mul, rnd_zero, word_mk, Nat.zero_min]
  unfold Format.nearest
  rw [if_neg h0]
  show mk neg (min ((max (place + mag.log2 - 52) (-1074) - -1074).toNat * 2 ^ 52 + Toward.even.cut neg (mag <<< (place - max (place + mag.log2 - 52) (-1074)).toNat) (max (place + mag.log2 - 52) (-1074) - place).toNat) inf) = _
  refine congrArg (fun r => mk neg (min r inf)) ?_
  unfold rnd
  rw [cut_even, log2_scale _ _ h0]
  obtain ⟨l, hl⟩ : ∃ l, l = mag.log2 := ⟨_, rfl⟩
  rw [← hl]
  obtain ⟨e, he⟩ : ∃ e : Nat, (e : Int) = max (place + l - 52) (-1074) + 1074 := ⟨(max (place + l - 52) (-1074) + 1074).toNat, by omega⟩
  have e1 : max (place + (l : Int) - 52) (-1074) = (e : Int) - 1074 := by omega
  rw [e1]
  have e2 : ((e : Int) - 1074 - -1074).toNat = e := by omega
  have e3 : l + (place + 1074 + K).toNat - (52 + K) = e := by omega
  rw [e2, e3]
  congr 1
  rw [Nat.shiftLeft_eq]
  by_cases hc : (e : Int) ≤ place + 1074
  · have x1 : ((e : Int) - 1074 - place).toNat = 0 := by omega
    have x2 : (place + 1074 + K).toNat = (place - ((e : Int) - 1074)).toNat + (K + e) := by omega
    rw [x1, x2, Nat.pow_add, ← Nat.mul_assoc, rhe_exact, rhe_zero]
  · have x1 : (place - ((e : Int) - 1074)).toNat = 0 := by omega
    have x2 : K + e = ((e : Int) - 1074 - place).toNat + (place + 1074 + K).toNat := by omega
    rw [x1, x2, rhe_scale, Nat.pow_zero, Nat.mul_one]

/-! ## What a word is -/
def isNone (x : Nat) : Prop := inf < rg x
instance (x : Nat) : Decidable (isNone x) := inferInstanceAs (Decidable (inf < rg x))
def val (x : Nat) : Int := if sg x then -(V (rg x) : Int) else (V (rg x) : Int)
/-- A number rounded, in units of the least real: its rung. -/
def rr (n : Nat) : Nat := min (rnd n 0) inf
def ofInt (z : Int) (zero : Bool) : Nat := mk (if z = 0 then zero else decide (z < 0)) (rr z.natAbs)

theorem signed_scale (s : Bool) (m a b c : Nat) (h : c = a + b) : (signed s m a) * (2 ^ b : Nat) = if s then -((m * 2 ^ c : Nat) : Int) else ((m * 2 ^ c : Nat) : Int) := by
  subst h
  unfold signed
  rw [Nat.pow_add, ← Nat.mul_assoc, Nat.shiftLeft_eq]
  cases s
  · simp
  · simp [Int.neg_mul]
theorem add_fin (x y : Nat) (hx : rg x < inf) (hy : rg y < inf) : double.add x y = some (ofInt (val x + val y) (sg x && sg y)) := by
  obtain ⟨m, p, e1, hp, hv⟩ := read_fin x hx
  obtain ⟨n, q, e2, hq, hw⟩ := read_fin y hy
  unfold Format.add
  rw [e1, e2]
  simp only [Datum.sum, Option.map_some, Format.write]
  congr 1
  obtain ⟨b, hb⟩ : ∃ b : Nat, (b : Int) = min p q + 1074 := ⟨(min p q + 1074).toNat, by omega⟩
  have z1 := signed_scale (sg x) m (p - min p q).toNat b (p + 1074).toNat (by omega)
  have z2 := signed_scale (sg y) n (q - min p q).toNat b (q + 1074).toNat (by omega)
  rw [← hv] at z1
  rw [← hw] at z2
  have hT : (signed (sg x) m (p - min p q).toNat + signed (sg y) n (q - min p q).toNat) * (2 ^ b : Nat) = val x + val y := by
    rw [Int.add_mul, z1, z2]; rfl
  generalize signed (sg x) m (p - min p q).toNat + signed (sg y) n (q - min p q).toNat = T at hT ⊢
  have hpos : (0 : Int) < ((2 ^ b : Nat) : Int) := by exact_mod_cast Nat.two_pow_pos b
  rw [nearest_rnd _ _ _ 0 (by omega)]
  have hb2 : (min p q + 1074 + ((0 : Nat) : Int)).toNat = b := by omega
  rw [hb2]
  unfold ofInt rr
  have hab : T.natAbs * 2 ^ b = (val x + val y).natAbs := by
    rw [← hT, Int.natAbs_mul, Int.natAbs_natCast]
  rw [hab]
  congr 1
  by_cases h0 : T = 0
  · have : val x + val y = 0 := by rw [← hT, h0, Int.zero_mul]
    rw [if_pos h0, if_pos this]
  · have h1 : val x + val y ≠ 0 := by
      rw [← hT]; exact Int.mul_ne_zero h0 (by omega)
    rw [if_neg h0, if_neg h1]
    rw [decide_eq_decide, ← hT]
    constructor
    · intro h; exact Int.mul_neg_of_neg_of_pos h hpos
    · intro h
      by_cases hn : T < 0
      · exact hn
      · have := Int.mul_nonneg (by omega : 0 ≤ T) (Int.le_of_lt hpos); omega
theorem mul_fin (x y : Nat) (hx : rg x < inf) (hy : rg y < inf) : double.mul x y = some (mk (sg x ^^ sg y) (min (rnd (V (rg x) * V (rg y)) 1074) inf)) := by
  obtain ⟨m, p, e1, hp, hv⟩ := read_fin x hx
  obtain ⟨n, q, e2, hq, hw⟩ := read_fin y hy
  unfold Format.mul
  rw [e1, e2]
  simp only [Datum.product, Option.map_some, Format.write]
  rw [nearest_rnd _ _ _ 1074 (by omega), hv, hw]
  have e : (p + q + 1074 + ((1074 : Nat) : Int)).toNat = (p + 1074).toNat + (q + 1074).toNat := by omega
  rw [e, Nat.pow_add]
  congr 4
  exact Nat.mul_mul_mul_comm ..
theorem order_fin (x y : Nat) (hx : rg x < inf) (hy : rg y < inf) : double.order x y = some (compare (val x) (val y)) := by
  obtain ⟨m, p, e1, hp, hv⟩ := read_fin x hx
  obtain ⟨n, q, e2, hq, hw⟩ := read_fin y hy
  unfold Format.order
  rw [e1, e2]
  simp only [Datum.order]
  congr 1
  obtain ⟨b, hb⟩ : ∃ b : Nat, (b : Int) = min p q + 1074 := ⟨(min p q + 1074).toNat, by omega⟩
  have z1 := signed_scale (sg x) m (p - min p q).toNat b (p + 1074).toNat (by omega)
  have z2 := signed_scale (sg y) n (q - min p q).toNat b (q + 1074).toNat (by omega)
  rw [← hv] at z1
  rw [← hw] at z2
  have hpos : (0 : Int) < ((2 ^ b : Nat) : Int) := by exact_mod_cast Nat.two_pow_pos b
  generalize signed (sg x) m (p - min p q).toNat = S at z1 ⊢
  generalize signed (sg y) n (q - min p q).toNat = T at z2 ⊢
  have v1 : val x = S * (2 ^ b : Nat) := z1.symm
  have v2 : val y = T * (2 ^ b : Nat) := z2.symm
  rw [v1, v2]
  simp only [compare, compareOfLessAndEq]
  have a1 : S * (2 ^ b : Nat) < T * (2 ^ b : Nat) ↔ S < T := ⟨fun h => Int.lt_of_mul_lt_mul_right h (Int.le_of_lt hpos), fun h => Int.mul_lt_mul_of_pos_right h hpos⟩
  have a2 : S * (2 ^ b : Nat) = T * (2 ^ b : Nat) ↔ S = T := ⟨fun h => Int.eq_of_mul_eq_mul_right (by omega) h, fun h => by rw [h]⟩
  by_cases h1 : S < T
  · rw [if_pos h1, if_pos (a1.2 h1)]
  · rw [if_neg h1, if_neg (fun h => h1 (a1.1 h))]
    by_cases h2 : S = T
    · rw [if_pos h2, if_pos (a2.2 h2)]
    · rw [if_neg h2, if_neg (fun h => h2 (a2.1 h))]

/-- Where a real stands; -0 and 0 at one place. -/
def key (x : Nat) : Int := if sg x then -(rg x : Int) else (rg x : Int)
theorem val_lt (x y : Nat) : val x < val y ↔ key x < key y := by
  unfold val key
  have h1 := @V_le (rg x) (rg y)
  have h2 := @V_le (rg y) (rg x)
  have h3 := @V_eq_zero (rg x)
  have h4 := @V_eq_zero (rg y)
  cases sg x <;> cases sg y <;> simp <;> omega
theorem val_eq (x y : Nat) : val x = val y ↔ key x = key y := by
  have h1 := val_lt x y
  have h2 := val_lt y x
  omega
theorem compare_key (x y : Nat) : compare (val x) (val y) = compare (key x) (key y) := by
  simp only [compare, compareOfLessAndEq]
  have h1 := val_lt x y
  have h2 := val_eq x y
  by_cases a : key x < key y
  · rw [if_pos a, if_pos (h1.2 a)]
  · rw [if_neg a, if_neg (fun h => a (h1.1 h))]
    by_cases b : key x = key y
    · rw [if_pos b, if_pos (h2.2 b)]
    · rw [if_neg b, if_neg (fun h => b (h2.1 h))]
theorem cmp_lt {a b : Int} (h : a < b) : compare a b = .lt := by
  simp only [compare, compareOfLessAndEq]; rw [if_pos h]
theorem cmp_gt {a b : Int} (h : b < a) : compare a b = .gt := by
  simp only [compare, compareOfLessAndEq]; rw [if_neg (by omega), if_neg (by omega)]
theorem cmp_eq {a b : Int} (h : a = b) : compare a b = .eq := by
  subst h
  simp [compare, compareOfLessAndEq]
theorem order_some (x y : Nat) (hx : ¬ isNone x) (hy : ¬ isNone y) : double.order x y = some (compare (key x) (key y)) := by
  unfold isNone at hx hy
  by_cases fx : rg x < inf
  · by_cases fy : rg y < inf
    · rw [order_fin x y fx fy, compare_key]
    · obtain ⟨m, p, e1, _⟩ := read_fin x fx
      have e2 := read_inf y (by omega)
      unfold Format.order
      rw [e1, e2]
      simp only [Datum.order]
      congr 1
      have hy2 : rg y = inf := by omega
      unfold key
      rw [hy2]
      cases sg x <;> cases sg y <;> first | (rw [cmp_lt (by simp; omega)]; rfl) | (rw [cmp_gt (by simp; omega)]; rfl)
  · by_cases fy : rg y < inf
    · obtain ⟨m, p, e1, _⟩ := read_fin y fy
      have e2 := read_inf x (by omega)
      unfold Format.order
      rw [e1, e2]
      simp only [Datum.order]
      congr 1
      have hx2 : rg x = inf := by omega
      unfold key
      rw [hx2]
      cases sg x <;> cases sg y <;> first | (rw [cmp_lt (by simp; omega)]; rfl) | (rw [cmp_gt (by simp; omega)]; rfl)
    · have e1 := read_inf x (by omega)
      have e2 := read_inf y (by omega)
      unfold Format.order
      rw [e1, e2]
      simp only [Datum.order]
      congr 1
      have hx2 : rg x = inf := by omega
      have hy2 : rg y = inf := by omega
      unfold key
      rw [hx2, hy2]
      cases sg x <;> cases sg y <;> decide
theorem order_none (x y : Nat) (h : isNone x ∨ isNone y) : double.order x y = none := by
  unfold Format.order
  rcases h with h | h
  · obtain ⟨t, e⟩ := read_nan x h
    rw [e]; rfl
  · obtain ⟨t, e⟩ := read_nan y h
    rw [e]
    cases double.read x <;> rfl
theorem add_none (x y : Nat) (h : isNone x ∨ isNone y) : double.add x y = none := by
  unfold Format.add
  rcases h with h | h
  · obtain ⟨t, e⟩ := read_nan x h
    rw [e]; rfl
  · obtain ⟨t, e⟩ := read_nan y h
    rw [e]
    cases double.read x <;> rfl
theorem mul_none (x y : Nat) (h : isNone x ∨ isNone y) : double.mul x y = none := by
  unfold Format.mul
  rcases h with h | h
  · obtain ⟨t, e⟩ := read_nan x h
    rw [e]; rfl
  · obtain ⟨t, e⟩ := read_nan y h
    rw [e]
    cases double.read x <;> rfl
end Go.Proofs.YtilbbemdinpjcaaGreat.T
namespace Go.Proofs.YtilbbemdinpjcaaGreat.T
open Ieee

def NAN : Nat := 9221120237041090560
def canonB (a : Nat) : Nat := if isNone a then NAN else a
def negB (a : Nat) : Nat := if isNone a then NAN else mk (!sg a) (rg a)
def addB (a b : Nat) : Nat := (double.add a b).getD NAN
def subB (a b : Nat) : Nat := (double.sub a b).getD NAN
def mulB (a b : Nat) : Nat := (double.mul a b).getD NAN
def divB (a b : Nat) : Nat := (double.div a b).getD NAN
def sqrtB (a : Nat) : Nat := (double.sqrt a).getD NAN
def lessB (a b : Nat) : Bool := decide (double.order a b = some .lt)
def sameB (a b : Nat) : Bool := decide (double.order a b = some .eq)
def pos (a : Nat) : Int := if isNone a then (inf : Int) + 1 else if sg a then -1 - (rg a : Int) else (rg a : Int)
def orderB (a b : Nat) : Int := if pos a < pos b then -1 else if pos a = pos b then 0 else 1

theorem none_NAN : isNone NAN := by decide
theorem canon_right (a : Nat) : canonB (canonB a) = canonB a := by
  unfold canonB
  by_cases h : isNone a
  · rw [if_pos h, if_pos none_NAN]
  · rw [if_neg h, if_neg h]
/-- No NaN but one. -/
def Rt (a : Nat) : Prop := canonB a = a
theorem rt_NAN : Rt NAN := by unfold Rt canonB; rw [if_pos none_NAN]
theorem rt_of (a : Nat) (h : ¬ isNone a) : Rt a := by unfold Rt canonB; rw [if_neg h]
theorem rg_mk_le (s : Bool) (r : Nat) (h : r ≤ inf) : rg (mk s r) = r := rg_mk s r (by unfold inf at h; omega)
theorem sg_mk_le (s : Bool) (r : Nat) (h : r ≤ inf) : sg (mk s r) = s := sg_mk s r (by unfold inf at h; omega)
theorem none_mk (s : Bool) (r : Nat) (h : r ≤ inf) : ¬ isNone (mk s r) := by
  unfold isNone; rw [rg_mk_le s r h]; omega
def notNan : Datum → Bool
  | .nan .. => false
  | _ => true
theorem write_mk {d : Datum} (h : notNan d = true) : ∃ r, r ≤ inf ∧ double.write d = mk d.neg r ∧ double.write d.opposite = mk (!d.neg) r := by
  cases d with
  | number s m p =>
    obtain ⟨K, hK⟩ : ∃ K : Nat, 0 ≤ p + 1074 + K := ⟨(-(p + 1074)).toNat, by omega⟩
    exact ⟨min (rnd (m * 2 ^ (p + 1074 + K).toNat) K) inf, Nat.min_le_right _ _, nearest_rnd s m p K hK, nearest_rnd (!s) m p K hK⟩
  | infinity s => exact ⟨inf, Nat.le_refl _, rfl, rfl⟩
  | nan s t => cases h
theorem sum_notNan {x y d : Datum} (h : x.sum y = some d) : notNan d = true := by
  cases x <;> cases y <;> simp only [Datum.sum] at h <;> (try split at h) <;> first | (cases h; done) | (cases h; rfl)
theorem product_notNan {x y d : Datum} (h : x.product y = some d) : notNan d = true := by
  cases x <;> cases y <;> simp only [Datum.product] at h <;> (try split at h) <;> first | (cases h; done) | (cases h; rfl)
theorem quotient_notNan {k : Nat} {x y d : Datum} (h : x.quotient k y = some d) : notNan d = true := by
  cases x <;> cases y <;> simp only [Datum.quotient] at h <;> (try split at h) <;> (try split at h) <;> first | (cases h; done) | (cases h; rfl)
theorem root_notNan {k : Nat} {x d : Datum} (h : x.root k = some d) : notNan d = true := by
  cases x <;> simp only [Datum.root] at h <;> (try split at h) <;> (try split at h) <;> first | (cases h; done) | (cases h; rfl)
theorem rt_write {o : Option Datum} (h : ∀ d, o = some d → notNan d = true) : Rt ((o.map double.write).getD NAN) := by
  cases o with
  | none => exact rt_NAN
  | some d =>
    obtain ⟨r, hr, e, _⟩ := write_mk (h d rfl)
    show Rt (double.write d)
    rw [e]
    exact rt_of _ (none_mk _ _ hr)
theorem rt_add (a b : Nat) : Rt (addB a b) := rt_write fun _ => sum_notNan
theorem rt_sub (a b : Nat) : Rt (subB a b) := rt_write fun _ => sum_notNan
theorem rt_mul (a b : Nat) : Rt (mulB a b) := rt_write fun _ => product_notNan
theorem rt_div (a b : Nat) : Rt (divB a b) := rt_write fun _ => quotient_notNan
theorem rt_sqrt (a : Nat) : Rt (sqrtB a) := rt_write fun _ => root_notNan
theorem rt_canon (a : Nat) : Rt (canonB a) := canon_right a
theorem rt_neg (a : Nat) : Rt (negB a) := by
  unfold negB
  by_cases h : isNone a
  · rw [if_pos h]; exact rt_NAN
  · rw [if_neg h]; exact rt_of _ (none_mk _ _ (by unfold isNone at h; omega))

/-! ## Turned -/
theorem sum_comm (x y : Datum) : x.sum y = y.sum x := by
  cases x <;> cases y <;> simp only [Datum.sum]
  · rename_i s m i t n j
    rw [Int.min_comm i j, Int.add_comm, Bool.and_comm]
  · rename_i s t
    by_cases h : s = t
    · subst h; rfl
    · rw [if_neg h, if_neg (fun e => h e.symm)]
theorem product_comm (x y : Datum) : x.product y = y.product x := by
  cases x <;> cases y <;> simp only [Datum.product]
  all_goals first | rw [Bool.xor_comm, Nat.mul_comm, Int.add_comm] | rw [Bool.xor_comm]
theorem add_comm (a b : Nat) : addB a b = addB b a := by unfold addB Format.add; rw [sum_comm]
theorem mul_comm (a b : Nat) : mulB a b = mulB b a := by unfold mulB Format.mul; rw [product_comm]

theorem read_neg (a : Nat) (h : ¬ isNone a) : double.read (negB a) = (double.read a).opposite := by
  unfold negB
  rw [if_neg h]
  unfold isNone at h
  have h1 : sg (mk (!sg a) (rg a)) = !sg a := sg_mk_le _ _ (by omega)
  have h2 : rg (mk (!sg a) (rg a)) = rg a := rg_mk_le _ _ (by omega)
  unfold Format.read
  show (if rg (mk (!sg a) (rg a)) < 2 ^ 52 then Datum.number (sg (mk (!sg a) (rg a))) (rg (mk (!sg a) (rg a))) _ else if rg (mk (!sg a) (rg a)) < inf then Datum.number (sg (mk (!sg a) (rg a))) (2 ^ 52 + rg (mk (!sg a) (rg a)) % 2 ^ 52) (_ + (rg (mk (!sg a) (rg a)) / 2 ^ 52 - 1 : Nat)) else if rg (mk (!sg a) (rg a)) = inf then Datum.infinity (sg (mk (!sg a) (rg a))) else Datum.nan (sg (mk (!sg a) (rg a))) (rg (mk (!sg a) (rg a)) - inf)) =
    (if rg a < 2 ^ 52 then Datum.number (sg a) (rg a) _ else if rg a < inf then Datum.number (sg a) (2 ^ 52 + rg a % 2 ^ 52) (_ + (rg a / 2 ^ 52 - 1 : Nat)) else if rg a = inf then Datum.infinity (sg a) else Datum.nan (sg a) (rg a - inf)).opposite
  rw [h1, h2]
  by_cases c1 : rg a < 2 ^ 52
  · rw [if_pos c1, if_pos c1]; rfl
  · rw [if_neg c1, if_neg c1]
    by_cases c2 : rg a < inf
    · rw [if_pos c2, if_pos c2]; rfl
    · rw [if_neg c2, if_neg c2, if_pos (by omega), if_pos (by omega)]; rfl
theorem sub_none (x y : Nat) (h : isNone x ∨ isNone y) : double.sub x y = none := by
  unfold Format.sub
  rcases h with h | h
  · obtain ⟨t, e⟩ := read_nan x h
    rw [e]; rfl
  · obtain ⟨t, e⟩ := read_nan y h
    rw [e]
    cases double.read x <;> rfl
theorem div_none (x y : Nat) (h : isNone x ∨ isNone y) : double.div x y = none := by
  unfold Format.div
  rcases h with h | h
  · obtain ⟨t, e⟩ := read_nan x h
    rw [e]; rfl
  · obtain ⟨t, e⟩ := read_nan y h
    rw [e]
    cases double.read x <;> rfl
theorem sqrt_none (x : Nat) (h : isNone x) : double.sqrt x = none := by
  unfold Format.sqrt
  obtain ⟨t, e⟩ := read_nan x h
  rw [e]; rfl
theorem neg_of_none (a : Nat) (h : isNone a) : negB a = NAN := by unfold negB; rw [if_pos h]
theorem sub_add (a b : Nat) : subB a b = addB a (negB b) := by
  by_cases h : isNone b
  · unfold subB addB
    rw [sub_none a b (.inr h), neg_of_none b h, add_none a NAN (.inr none_NAN)]
  · unfold subB addB Format.sub Format.add
    rw [read_neg b h]
theorem neg_neg (a : Nat) (ha : a < 2 ^ 64) : negB (negB a) = canonB a := by
  unfold canonB
  by_cases h : isNone a
  · rw [neg_of_none a h, neg_of_none _ none_NAN, if_pos h]
  · rw [if_neg h]
    have h' : rg a ≤ inf := by unfold isNone at h; omega
    unfold negB
    rw [if_neg h, if_neg (none_mk _ _ h'), sg_mk_le _ _ h', rg_mk_le _ _ h', Bool.not_not, mk_of a ha]
theorem neg_write {o : Option Datum} (h : ∀ d, o = some d → notNan d = true) : ((o.map Datum.opposite).map double.write).getD NAN = negB ((o.map double.write).getD NAN) := by
  cases o with
  | none => show NAN = negB NAN; rw [neg_of_none _ none_NAN]
  | some d =>
    obtain ⟨r, hr, e1, e2⟩ := write_mk (h d rfl)
    show double.write d.opposite = negB (double.write d)
    rw [e1, e2]
    unfold negB
    rw [if_neg (none_mk _ _ hr), sg_mk_le _ _ hr, rg_mk_le _ _ hr]
theorem product_opposite (x y : Datum) : x.opposite.product y = (x.product y).map Datum.opposite := by
  cases x <;> cases y <;> simp only [Datum.product, Datum.opposite, Option.map] <;> (try split) <;> simp_all
theorem quotient_opposite (k : Nat) (x y : Datum) : x.quotient k y.opposite = (x.quotient k y).map Datum.opposite := by
  cases x <;> cases y
  case number.number s m i t n j =>
    simp only [Datum.quotient, Datum.opposite]
    by_cases h : n = 0
    · by_cases h2 : m = 0
      · simp [h, h2]
      · simp [h, h2, Datum.opposite]
    · simp only [if_neg h, Option.map_some, Datum.opposite]
      rw [Bool.xor_not]
  all_goals simp [Datum.quotient, Datum.opposite]
theorem mul_neg (a b : Nat) : mulB (negB a) b = negB (mulB a b) := by
  by_cases h : isNone a
  · unfold mulB
    rw [neg_of_none a h, mul_none NAN b (.inl none_NAN), mul_none a b (.inl h)]
    exact (neg_of_none _ none_NAN).symm
  · unfold mulB Format.mul
    rw [read_neg a h, product_opposite, neg_write fun _ => product_notNan]
theorem div_neg (a b : Nat) : divB a (negB b) = negB (divB a b) := by
  by_cases h : isNone b
  · unfold divB
    rw [neg_of_none b h, div_none a NAN (.inr none_NAN), div_none a b (.inr h)]
    exact (neg_of_none _ none_NAN).symm
  · unfold divB Format.div
    rw [read_neg b h, quotient_opposite, neg_write fun _ => quotient_notNan]
end Go.Proofs.YtilbbemdinpjcaaGreat.T
