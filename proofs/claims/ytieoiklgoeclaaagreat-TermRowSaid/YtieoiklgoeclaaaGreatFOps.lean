/-
  What each call of float tells, as plain functions of the bits; and what follows of them. No condition but words of 64 bits.
-/
import Derived.Test.YtieoiklgoeclaaaGreatFWord
namespace Go.Proofs.YtieoiklgoeclaaaGreat
open Ieee

def NAN : Nat := 9221120237041090560
def canonB (a : Nat) : Nat := if isNone a then NAN else a
def negB (a : Nat) : Nat := if isNone a then NAN else mk (!sg a) (rg a)
def addB (a b : Nat) : Nat := (double.add a b).getD NAN
def subB (a b : Nat) : Nat := (double.sub a b).getD NAN
def mulB (a b : Nat) : Nat := (double.mul a b).getD NAN
def divB (a b : Nat) : Nat := (double.div a b).getD NAN
def sqrtB (a : Nat) : Nat := (double.sqrt a).getD NAN
def lessB (a b : Nat) : Bool := decide (double.order a b = some .lt)
def sameB (a b : Nat) : Bool := decide (double.order a b = some .eq)
def pos (a : Nat) : Int := if isNone a then (inf : Int) + 1 else if sg a then -1 - (rg a : Int) else (rg a : Int)
def orderB (a b : Nat) : Int := if pos a < pos b then -1 else if pos a = pos b then 0 else 1

theorem none_NAN : isNone NAN := by decide
theorem canon_right (a : Nat) : canonB (canonB a) = canonB a := by
  unfold canonB
  by_cases h : isNone a
  · rw [if_pos h, if_pos none_NAN]
  · rw [if_neg h, if_neg h]
/-- No NaN but one. -/
def Rt (a : Nat) : Prop := canonB a = a
theorem rt_NAN : Rt NAN := by unfold Rt canonB; rw [if_pos none_NAN]
theorem rt_of (a : Nat) (h : ¬ isNone a) : Rt a := by unfold Rt canonB; rw [if_neg h]
theorem rg_mk_le (s : Bool) (r : Nat) (h : r ≤ inf) : rg (mk s r) = r := rg_mk s r (by unfold inf at h; omega)
theorem sg_mk_le (s : Bool) (r : Nat) (h : r ≤ inf) : sg (mk s r) = s := sg_mk s r (by unfold inf at h; omega)
theorem none_mk (s : Bool) (r : Nat) (h : r ≤ inf) : ¬ isNone (mk s r) := by
  unfold isNone; rw [rg_mk_le s r h]; omega
def notNan : Datum → Bool
  | .nan .. => false
  | _ => true
theorem write_mk {d : Datum} (h : notNan d = true) : ∃ r, r ≤ inf ∧ double.write d = mk d.neg r ∧ double.write d.opposite = mk (!d.neg) r := by
  cases d with
  | number s m p =>
    obtain ⟨K, hK⟩ : ∃ K : Nat, 0 ≤ p + 1074 + K := ⟨(-(p + 1074)).toNat, by omega⟩
    exact ⟨min (rnd (m * 2 ^ (p + 1074 + K).toNat) K) inf, Nat.min_le_right _ _, nearest_rnd s m p K hK, nearest_rnd (!s) m p K hK⟩
  | infinity s => exact ⟨inf, Nat.le_refl _, rfl, rfl⟩
  | nan s t => cases h
theorem sum_notNan {x y d : Datum} (h : x.sum y = some d) : notNan d = true := by
  cases x <;> cases y <;> simp only [Datum.sum] at h <;> (try split at h) <;> first | (cases h; done) | (cases h; rfl)
theorem product_notNan {x y d : Datum} (h : x.product y = some d) : notNan d = true := by
  cases x <;> cases y <;> simp only [Datum.product] at h <;> (try split at h) <;> first | (cases h; done) | (cases h; rfl)
theorem quotient_notNan {k : Nat} {x y d : Datum} (h : x.quotient k y = some d) : notNan d = true := by
  cases x <;> cases y <;> simp only [Datum.quotient] at h <;> (try split at h) <;> (try split at h) <;> first | (cases h; done) | (cases h; rfl)
theorem root_notNan {k : Nat} {x d : Datum} (h : x.root k = some d) : notNan d = true := by
  cases x <;> simp only [Datum.root] at h <;> (try split at h) <;> (try split at h) <;> first | (cases h; done) | (cases h; rfl)
theorem rt_write {o : Option Datum} (h : ∀ d, o = some d → notNan d = true) : Rt ((o.map double.write).getD NAN) := by
  cases o with
  | none => exact rt_NAN
  | some d =>
    obtain ⟨r, hr, e, _⟩ := write_mk (h d rfl)
    show Rt (double.write d)
    rw [e]
    exact rt_of _ (none_mk _ _ hr)
theorem rt_add (a b : Nat) : Rt (addB a b) := rt_write fun _ => sum_notNan
theorem rt_sub (a b : Nat) : Rt (subB a b) := rt_write fun _ => sum_notNan
theorem rt_mul (a b : Nat) : Rt (mulB a b) := rt_write fun _ => product_notNan
theorem rt_div (a b : Nat) : Rt (divB a b) := rt_write fun _ => quotient_notNan
theorem rt_sqrt (a : Nat) : Rt (sqrtB a) := rt_write fun _ => root_notNan
theorem rt_canon (a : Nat) : Rt (canonB a) := canon_right a
theorem rt_neg (a : Nat) : Rt (negB a) := by
  unfold negB
  by_cases h : isNone a
  · rw [if_pos h]; exact rt_NAN
  · rw [if_neg h]; exact rt_of _ (none_mk _ _ (by unfold isNone at h; omega))

/-! ## Turned -/
theorem sum_comm (x y : Datum) : x.sum y = y.sum x := by
  cases x <;> cases y <;> simp only [Datum.sum]
  · rename_i s m i t n j
    rw [Int.min_comm i j, Int.add_comm, Bool.and_comm]
  · rename_i s t
    by_cases h : s = t
    · subst h; rfl
    · rw [if_neg h, if_neg (fun e => h e.symm)]
theorem product_comm (x y : Datum) : x.product y = y.product x := by
  cases x <;> cases y <;> simp only [Datum.product]
  all_goals first | rw [Bool.xor_comm, Nat.mul_comm, Int.add_comm] | rw [Bool.xor_comm]
theorem add_comm (a b : Nat) : addB a b = addB b a := by unfold addB Format.add; rw [sum_comm]
theorem mul_comm (a b : Nat) : mulB a b = mulB b a := by unfold mulB Format.mul; rw [product_comm]

theorem read_neg (a : Nat) (h : ¬ isNone a) : double.read (negB a) = (double.read a).opposite := by
  unfold negB
  rw [if_neg h]
  unfold isNone at h
  have h1 : sg (mk (!sg a) (rg a)) = !sg a := sg_mk_le _ _ (by omega)
  have h2 : rg (mk (!sg a) (rg a)) = rg a := rg_mk_le _ _ (by omega)
  unfold Format.read
  show (if rg (mk (!sg a) (rg a)) < 2 ^ 52 then Datum.number (sg (mk (!sg a) (rg a))) (rg (mk (!sg a) (rg a))) _ else if rg (mk (!sg a) (rg a)) < inf then Datum.number (sg (mk (!sg a) (rg a))) (2 ^ 52 + rg (mk (!sg a) (rg a)) % 2 ^ 52) (_ + (rg (mk (!sg a) (rg a)) / 2 ^ 52 - 1 : Nat)) else if rg (mk (!sg a) (rg a)) = inf then Datum.infinity (sg (mk (!sg a) (rg a))) else Datum.nan (sg (mk (!sg a) (rg a))) (rg (mk (!sg a) (rg a)) - inf)) =
    (if rg a < 2 ^ 52 then Datum.number (sg a) (rg a) _ else if rg a < inf then Datum.number (sg a) (2 ^ 52 + rg a % 2 ^ 52) (_ + (rg a / 2 ^ 52 - 1 : Nat)) else if rg a = inf then Datum.infinity (sg a) else Datum.nan (sg a) (rg a - inf)).opposite
  rw [h1, h2]
  by_cases c1 : rg a < 2 ^ 52
  · rw [if_pos c1, if_pos c1]; rfl
  · rw [if_neg c1, if_neg c1]
    by_cases c2 : rg a < inf
    · rw [if_pos c2, if_pos c2]; rfl
    · rw [if_neg c2, if_neg c2, if_pos (by omega), if_pos (by omega)]; rfl
theorem sub_none (x y : Nat) (h : isNone x ∨ isNone y) : double.sub x y = none := by
  unfold Format.sub
  rcases h with h | h
  · obtain ⟨t, e⟩ := read_nan x h
    rw [e]; rfl
  · obtain ⟨t, e⟩ := read_nan y h
    rw [e]
    cases double.read x <;> rfl
theorem div_none (x y : Nat) (h : isNone x ∨ isNone y) : double.div x y = none := by
  unfold Format.div
  rcases h with h | h
  · obtain ⟨t, e⟩ := read_nan x h
    rw [e]; rfl
  · obtain ⟨t, e⟩ := read_nan y h
    rw [e]
    cases double.read x <;> rfl
theorem sqrt_none (x : Nat) (h : isNone x) : double.sqrt x = none := by
  unfold Format.sqrt
  obtain ⟨t, e⟩ := read_nan x h
  rw [e]; rfl
theorem neg_of_none (a : Nat) (h : isNone a) : negB a = NAN := by unfold negB; rw [if_pos h]
theorem sub_add (a b : Nat) : subB a b = addB a (negB b) := by
  by_cases h : isNone b
  · unfold subB addB
    rw [sub_none a b (.inr h), neg_of_none b h, add_none a NAN (.inr none_NAN)]
  · unfold subB addB Format.sub Format.add
    rw [read_neg b h]
theorem neg_neg (a : Nat) (ha : a < 2 ^ 64) : negB (negB a) = canonB a := by
  unfold canonB
  by_cases h : isNone a
  · rw [neg_of_none a h, neg_of_none _ none_NAN, if_pos h]
  · rw [if_neg h]
    have h' : rg a ≤ inf := by unfold isNone at h; omega
    unfold negB
    rw [if_neg h, if_neg (none_mk _ _ h'), sg_mk_le _ _ h', rg_mk_le _ _ h', Bool.not_not, mk_of a ha]
theorem neg_write {o : Option Datum} (h : ∀ d, o = some d → notNan d = true) : ((o.map Datum.opposite).map double.write).getD NAN = negB ((o.map double.write).getD NAN) := by
  cases o with
  | none => show NAN = negB NAN; rw [neg_of_none _ none_NAN]
  | some d =>
    obtain ⟨r, hr, e1, e2⟩ := write_mk (h d rfl)
    show double.write d.opposite = negB (double.write d)
    rw [e1, e2]
    unfold negB
    rw [if_neg (none_mk _ _ hr), sg_mk_le _ _ hr, rg_mk_le _ _ hr]
theorem product_opposite (x y : Datum) : x.opposite.product y = (x.product y).map Datum.opposite := by
  cases x <;> cases y <;> simp only [Datum.product, Datum.opposite, Option.map] <;> (try split) <;> simp_all
theorem quotient_opposite (k : Nat) (x y : Datum) : x.quotient k y.opposite = (x.quotient k y).map Datum.opposite := by
  cases x <;> cases y
  case number.number s m i t n j =>
    simp only [Datum.quotient, Datum.opposite]
    by_cases h : n = 0
    · by_cases h2 : m = 0
      · simp [h, h2]
      · simp [h, h2, Datum.opposite]
    · simp only [if_neg h, Option.map_some, Datum.opposite]
      rw [Bool.xor_not]
  all_goals simp [Datum.quotient, Datum.opposite]
theorem mul_neg (a b : Nat) : mulB (negB a) b = negB (mulB a b) := by
  by_cases h : isNone a
  · unfold mulB
    rw [neg_of_none a h, mul_none NAN b (.inl none_NAN), mul_none a b (.inl h)]
    exact (neg_of_none _ none_NAN).symm
  · unfold mulB Format.mul
    rw [read_neg a h, product_opposite, neg_write fun _ => product_notNan]
theorem div_neg (a b : Nat) : divB a (negB b) = negB (divB a b) := by
  by_cases h : isNone b
  · unfold divB
    rw [neg_of_none b h, div_none a NAN (.inr none_NAN), div_none a b (.inr h)]
    exact (neg_of_none _ none_NAN).symm
  · unfold divB Format.div
    rw [read_neg b h, quotient_opposite, neg_write fun _ => quotient_notNan]
end Go.Proofs.YtieoiklgoeclaaaGreat
