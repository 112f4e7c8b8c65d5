/-
  What lies in order has its terms where they are looked for; the order of two terms as plain mathematics.
-/
import Derived.Test.YtieoiklgoeclaaaGreatTa
namespace Go.Proofs.YtieoiklgoeclaaaGreat
open Go.RowKit

/-- So many terms on, from a place. -/
def steps (E : Nat → Nat) (n : Nat) : Nat → Nat → Option Nat
  | 0, p => some p
  | m + 1, p => if n ≤ p then none else steps E n m (E p)
theorem steps_add (E : Nat → Nat) (n : Nat) : ∀ (k m p : Nat), steps E n (k + m) p = (steps E n k p).bind (steps E n m)
  | 0, m, p => by rw [Nat.zero_add]; rfl
  | k + 1, m, p => by
    rw [show k + 1 + m = (k + m) + 1 by omega]
    simp only [steps]
    by_cases h : n ≤ p
    · rw [if_pos h, if_pos h]; rfl
    · rw [if_neg h, if_neg h]; exact steps_add E n k m (E p)
theorem walk_steps {E D : Nat → Nat} {n : Nat} (hE : ∀ x, E x ≤ n) : ∀ (k p d a m : Nat), p ≤ n → walk E D n k (p, d) = some (a, m) → steps E n k p = some a ∧ a ≤ n
  | 0, p, d, a, m, hp, h => by
    simp only [walk, Option.some.injEq, Prod.mk.injEq] at h
    obtain ⟨rfl, rfl⟩ := h
    exact ⟨rfl, hp⟩
  | k + 1, p, d, a, m, hp, h => by
    simp only [walk] at h
    cases hk : walk E D n k (p, d) with
    | none => rw [hk] at h; cases h
    | some y =>
      obtain ⟨a0, m0⟩ := y
      rw [hk] at h
      obtain ⟨h1, h2⟩ := walk_steps hE k p d a0 m0 hp hk
      simp only at h
      split at h
      · cases h
      · rename_i hne
        cases h
        refine ⟨?_, hE _⟩
        rw [steps_add E n k 1 p, h1]
        show steps E n 1 a0 = _
        simp only [steps]
        rw [if_neg (by omega)]
theorem steps_congr {E E' : Nat → Nat} {n q : Nat} (h : ∀ x, q ≤ x → x < n → E x = E' x ∧ q ≤ E x) : ∀ (m p : Nat), q ≤ p → steps E n m p = steps E' n m p
  | 0, p, _ => rfl
  | m + 1, p, hp => by
    simp only [steps]
    by_cases hn : n ≤ p
    · rw [if_pos hn, if_pos hn]
    · rw [if_neg hn, if_neg hn]
      have := h p hp (by omega)
      rw [← this.1]
      exact steps_congr h m (E p) this.2
theorem layN_steps (ks : Nat → Int) (n : Nat) : ∀ (J : Nat) (E D : Nat → Nat), J ≤ n → layN ks n J = some (E, D) → ∀ i, n - J ≤ i → i < n → 0 ≤ ks i ∧ steps E n (ks i).toNat (i + 1) = some (E i)
  | 0, E, D, _, _, i, h1, h2 => by omega
  | J + 1, E, D, hJ, h, i, h1, h2 => by
    cases hl : layN ks n J with
    | none => simp only [layN, hl] at h; cases h
    | some y =>
      obtain ⟨E0, D0⟩ := y
      obtain ⟨hk, a, m, hw, rfl, rfl⟩ := layN_succ hl h
      have hinv := layN_inv ks n J E0 D0 (by omega) hl
      have hcg : ∀ (m p : Nat), n - J ≤ p → steps (upd E0 (n - 1 - J) a) n m p = steps E0 n m p := fun m p hp => (steps_congr (q := n - J) (fun x hx hxn => by
        have e : ¬ x = n - 1 - J := by omega
        have hv := hinv.2.2 x hx hxn
        refine ⟨?_, by omega⟩
        unfold upd
        rw [if_neg e]) m p hp).symm
      by_cases e : i = n - 1 - J
      · subst e
        refine ⟨hk, ?_⟩
        rw [hcg _ _ (by omega)]
        have := (walk_steps hinv.1 _ _ _ _ _ (by omega) hw).1
        rw [this]
        simp [upd]
      · have ih := layN_steps ks n J E0 D0 (by omega) hl i (by omega) h2
        refine ⟨ih.1, ?_⟩
        rw [hcg _ _ (by omega), ih.2]
        unfold upd
        rw [if_neg e]
theorem laid_steps {ks : Nat → Int} {n : Nat} {E D : Nat → Nat} (h : Laid ks n E D) (i : Nat) (hi : i < n) : 0 ≤ ks i ∧ steps E n (ks i).toNat (i + 1) = some (E i) :=
  layN_steps ks n n E D (Nat.le_refl _) h.2.1 i (by omega) hi
theorem steps_far {E : Nat → Nat} {n : Nat} (h : ∀ x, x < n → x < E x ∧ E x ≤ n) : ∀ (m p a : Nat), p ≤ n → steps E n m p = some a → p + m ≤ a ∧ a ≤ n
  | 0, p, a, hp, hs => by
    simp only [steps, Option.some.injEq] at hs
    omega
  | m + 1, p, a, hp, hs => by
    simp only [steps] at hs
    by_cases hn : n ≤ p
    · rw [if_pos hn] at hs; cases hs
    · rw [if_neg hn] at hs
      have h1 := h p (by omega)
      have := steps_far h m (E p) a h1.2 hs
      omega
theorem laid_kids {ks : Nat → Int} {n : Nat} {E D : Nat → Nat} (h : Laid ks n E D) (i : Nat) (hi : i < n) : 0 ≤ ks i ∧ ks i ≤ n := by
  have h1 := laid_steps h i hi
  have hinv := layN_inv ks n n E D (Nat.le_refl _) h.2.1
  have := steps_far (fun x hx => ⟨(hinv.2.2 x (by omega) hx).1, hinv.1 x⟩) _ _ _ (by omega) h1.2
  omega
def ksOf (xs : List Nd) (i : Nat) : Int := match xs[i]? with
  | some x => x.kids
  | none => 0
theorem ksOf_get (xs : List Nd) (i : Nat) (h : i < xs.length) : ksOf xs i = xs[i].kids := by simp [ksOf, h]
theorem kidsIn_of {xs : List Nd} {E D : Nat → Nat} (h : Laid (ksOf xs) xs.length E D) (hn : xs.length ≤ 1000000) : KidsIn xs := fun x hx => by
  obtain ⟨i, hi, rfl⟩ := List.getElem_of_mem hx
  have := laid_kids h i hi
  rw [ksOf_get xs i hi] at this
  omega
theorem steps_less {E : Nat → Nat} {n k m p : Nat} (h : (steps E n (k + m) p).isSome = true) : (steps E n k p).isSome = true := by
  rw [steps_add] at h
  cases hs : steps E n k p with
  | none => rw [hs] at h; cases h
  | some _ => rfl
/-- While so many terms are to come in both, the order is told. -/
theorem ahead_told {xs ys : List Nd} {E1 E2 : Nat → Nat} (h1 : ∀ i (h : i < xs.length), 0 ≤ xs[i].kids ∧ steps E1 xs.length xs[i].kids.toNat (i + 1) = some (E1 i)) (h2 : ∀ i (h : i < ys.length), 0 ≤ ys[i].kids ∧ steps E2 ys.length ys[i].kids.toNat (i + 1) = some (E2 i)) :
    ∀ (f j m : Nat) (d : Int), xs.length - j ≤ f → (steps E1 xs.length m j).isSome = true → (steps E2 ys.length m j).isSome = true → ∃ r, aheadR (xs.drop j) (ys.drop j) d m = some r
  | _, j, 0, d, _, _, _ => ⟨d, by cases xs.drop j <;> simp [aheadR]⟩
  | 0, j, m + 1, d, hf, s1, _ => by
    simp only [steps] at s1
    rw [if_pos (by omega)] at s1
    cases s1
  | f + 1, j, m + 1, d, hf, s1, s2 => by
    simp only [steps] at s1 s2
    by_cases hx : xs.length ≤ j
    · rw [if_pos hx] at s1; cases s1
    by_cases hy : ys.length ≤ j
    · rw [if_pos hy] at s2; cases s2
    rw [if_neg hx] at s1
    rw [if_neg hy] at s2
    have kx := h1 j (by omega)
    have ky := h2 j (by omega)
    have ex : xs.drop j = xs[j] :: xs.drop (j + 1) := List.drop_eq_getElem_cons (by omega)
    have ey : ys.drop j = ys[j] :: ys.drop (j + 1) := List.drop_eq_getElem_cons (by omega)
    rw [ex, ey]
    have hn : ¬ ((m + 1 : Nat) : Int) ≤ 0 := by omega
    simp only [aheadR, if_neg hn]
    by_cases hp : partO xs[j] ys[j] = 0
    · rw [if_neg (by simpa using hp)]
      by_cases hk : xs[j].kids = ys[j].kids
      · rw [if_pos hk]
        have e : ((m + 1 : Nat) : Int) + (xs[j].kids - 1) = ((xs[j].kids.toNat + m : Nat) : Int) := by omega
        rw [e]
        refine ahead_told h1 h2 f (j + 1) _ d (by omega) ?_ ?_
        · rw [steps_add, kx.2]; exact s1
        · rw [steps_add, hk, ky.2]; exact s2
      · rw [if_neg hk]
        obtain ⟨t, ht⟩ : ∃ t : Nat, t = min xs[j].kids.toNat ys[j].kids.toNat := ⟨_, rfl⟩
        have e : min xs[j].kids ys[j].kids = (t : Int) := by omega
        rw [e]
        refine ahead_told h1 h2 f (j + 1) t _ (by omega) ?_ ?_
        · refine steps_less (m := xs[j].kids.toNat - t) ?_
          rw [show t + (xs[j].kids.toNat - t) = xs[j].kids.toNat by omega, kx.2]; rfl
        · refine steps_less (m := ys[j].kids.toNat - t) ?_
          rw [show t + (ys[j].kids.toNat - t) = ys[j].kids.toNat by omega, ky.2]; rfl
    · rw [if_pos (by simpa using hp)]
      exact ⟨_, rfl⟩
def inO (xs : List Nd) : Bool := inOrd (ksOf xs) xs.length
theorem inO_laid {xs : List Nd} (h : inO xs = true) : ∃ E D, Laid (ksOf xs) xs.length E D := by
  unfold inO inOrd at h
  cases hl : layOf (ksOf xs) xs.length with
  | none => rw [hl] at h; cases h
  | some y => exact ⟨y.1, y.2, layOf_some hl⟩
theorem ahead_two {xs ys : List Nd} (h1 : inO xs = true) (h2 : inO ys = true) : ∃ r, aheadR xs ys 0 1 = some r := by
  obtain ⟨E1, D1, l1⟩ := inO_laid h1
  obtain ⟨E2, D2, l2⟩ := inO_laid h2
  have := ahead_told (xs := xs) (ys := ys) (E1 := E1) (E2 := E2) (fun i h => by have := laid_steps l1 i h; rw [ksOf_get xs i h] at this; exact this) (fun i h => by have := laid_steps l2 i h; rw [ksOf_get ys i h] at this; exact this)
    xs.length 0 1 0 (by omega) (by simp only [steps]; rw [if_neg (by have := l1.1; omega)]; rfl) (by simp only [steps]; rw [if_neg (by have := l2.1; omega)]; rfl)
  simpa using this
/-- The order of two terms. -/
def ordT (xs ys : List Nd) : Int := if inO xs = true then (if inO ys = true then (aheadR xs ys 0 1).getD 0 else 1) else if inO ys = true then -1 else 0
/-- Whether two terms are the same. -/
def sameT (xs ys : List Nd) : Bool := inO xs && ordT xs ys == 0
/-- Nodes by a slice: somewhere, if there are any. -/
def TAt (w : World) (a : Option Addr) (xs : List Nd) : Prop := (0 < xs.length → ∃ g off, a = some ⟨g, off, none⟩ ∧ NAt w g off xs) ∧ xs.length ≤ 1000000 ∧ ∀ x ∈ xs, x.kids ≤ 9223372036854775807
theorem TAt.below {B : Nat} {w w' : World} {a : Option Addr} {xs : List Nd} (h : TAt w a xs) (hb : Below B w w') (hB : w.heap.size ≤ B) : TAt w' a xs :=
  ⟨fun h0 => by
    obtain ⟨g, off, h1, h2⟩ := h.1 h0
    exact ⟨g, off, h1, h2.below hb (Nat.lt_of_lt_of_le h2.1 hB)⟩, h.2⟩
theorem TAt.ks {w : World} {a : Option Addr} {xs : List Nd} (h : TAt w a xs) : KsAt w a xs.length (ksOf xs) := fun i hi => by
  obtain ⟨g, off, h1, h2⟩ := h.1 (by omega)
  refine ⟨g, off, h1, h2.1, ?_, ?_⟩
  · rw [ksOf_get xs i hi]; exact h2.2 i hi 4 _ rfl
  · rw [ksOf_get xs i hi]; exact h.2.2 _ (List.getElem_mem hi)
theorem ord_two {xs ys : List Nd} (h1 : inO xs = true) (h2 : inO ys = true) : aheadR xs ys 0 1 = some (ordT xs ys) := by
  obtain ⟨r, hr⟩ := ahead_two h1 h2
  unfold ordT
  rw [if_pos h1, if_pos h2, hr]
  rfl
end Go.Proofs.YtieoiklgoeclaaaGreat
