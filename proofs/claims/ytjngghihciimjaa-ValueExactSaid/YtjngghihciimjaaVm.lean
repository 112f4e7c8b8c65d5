/-
  Names, and sums by name. Plain mathematics: of a row's contributions there is one row of totals; it hangs on no order of theirs.
-/
import Derived.Test.YtjngghihciimjaaProg
namespace Go.Proofs.Ytjngghihciimjaa

/-- -1, 0, 1: byte by byte; one that ends ahead of one that goes on. -/
def cmpB : List UInt8 → List UInt8 → Int
  | [], [] => 0
  | [], _ :: _ => -1
  | _ :: _, [] => 1
  | a :: al, b :: bl => if a < b then -1 else if b < a then 1 else cmpB al bl
theorem u8_tri (a b : UInt8) : a < b ∨ a = b ∨ b < a := by
  rcases Nat.lt_trichotomy a.toNat b.toNat with h | h | h
  · exact .inl (UInt8.lt_iff_toNat_lt.2 h)
  · exact .inr (.inl (UInt8.toNat_inj.1 h))
  · exact .inr (.inr (UInt8.lt_iff_toNat_lt.2 h))
theorem u8_irrefl (a : UInt8) : ¬ a < a := fun h => Nat.lt_irrefl _ (UInt8.lt_iff_toNat_lt.1 h)
theorem u8_asymm {a b : UInt8} (h : a < b) : ¬ b < a := fun k => Nat.lt_asymm (UInt8.lt_iff_toNat_lt.1 h) (UInt8.lt_iff_toNat_lt.1 k)
theorem u8_trans {a b c : UInt8} (h : a < b) (k : b < c) : a < c := UInt8.lt_iff_toNat_lt.2 (Nat.lt_trans (UInt8.lt_iff_toNat_lt.1 h) (UInt8.lt_iff_toNat_lt.1 k))
theorem cmpB_self : ∀ a : List UInt8, cmpB a a = 0
  | [] => rfl
  | a :: al => by simp [cmpB, cmpB_self al]
theorem cmpB_eq : ∀ {a b : List UInt8}, cmpB a b = 0 → a = b
  | [], [], _ => rfl
  | [], _ :: _, h => by simp [cmpB] at h
  | _ :: _, [], h => by simp [cmpB] at h
  | a :: al, b :: bl, h => by
    unfold cmpB at h
    rcases u8_tri a b with k | rfl | k
    · simp [k] at h
    · simp at h
      rw [cmpB_eq h]
    · simp [k, u8_asymm k] at h
theorem cmpB_swap : ∀ a b : List UInt8, cmpB b a = - cmpB a b
  | [], [] => rfl
  | [], _ :: _ => rfl
  | _ :: _, [] => rfl
  | a :: al, b :: bl => by
    unfold cmpB
    rcases u8_tri a b with k | rfl | k
    · simp [k, u8_asymm k]
    · simp [cmpB_swap al bl]
    · simp [k, u8_asymm k]
theorem cmpB_trans : ∀ {a b c : List UInt8}, cmpB a b < 0 → cmpB b c < 0 → cmpB a c < 0
  | [], [], _, h, _ => by simp [cmpB] at h
  | [], _ :: _, [], _, h => by simp [cmpB] at h
  | [], _ :: _, _ :: _, _, _ => by simp [cmpB]
  | _ :: _, [], _, h, _ => by simp [cmpB] at h
  | _ :: _, _ :: _, [], _, h => by simp [cmpB] at h
  | a :: al, b :: bl, c :: cl, h, k => by
    unfold cmpB at h k ⊢
    rcases u8_tri a b with p | rfl | p
    · rcases u8_tri b c with q | rfl | q
      · simp [u8_trans p q]
      · simp [p]
      · simp [q, u8_asymm q] at k
    · rcases u8_tri a c with q | rfl | q
      · simp [q]
      · simp at h k ⊢
        exact cmpB_trans h k
      · simp [q, u8_asymm q] at k
    · simp [p, u8_asymm p] at h
/-- A name: a policy's bytes, a name's. -/
abbrev Nm := List UInt8 × List UInt8
def cN (a b : Nm) : Int := if cmpB a.1 b.1 = 0 then cmpB a.2 b.2 else cmpB a.1 b.1
theorem cN_self (a : Nm) : cN a a = 0 := by simp [cN, cmpB_self]
theorem cN_eq {a b : Nm} (h : cN a b = 0) : a = b := by
  unfold cN at h
  split at h
  · rename_i h1
    exact Prod.ext (cmpB_eq h1) (cmpB_eq h)
  · rename_i h1
    exact absurd h h1
theorem cN_swap (a b : Nm) : cN b a = - cN a b := by
  unfold cN
  have h1 := cmpB_swap a.1 b.1
  have h2 := cmpB_swap a.2 b.2
  rw [h1, h2]
  by_cases e : cmpB a.1 b.1 = 0
  · simp [e]
  · have : ¬ -cmpB a.1 b.1 = 0 := by omega
    rw [if_neg this, if_neg e]
theorem cN_trans {a b c : Nm} (h : cN a b < 0) (k : cN b c < 0) : cN a c < 0 := by
  unfold cN at h k ⊢
  by_cases e1 : cmpB a.1 b.1 = 0
  · have ea := cmpB_eq e1
    rw [if_pos e1] at h
    rw [ea]
    by_cases e2 : cmpB b.1 c.1 = 0
    · rw [if_pos e2] at k ⊢
      exact cmpB_trans h k
    · rw [if_neg e2] at k ⊢
      exact k
  · rw [if_neg e1] at h
    by_cases e2 : cmpB b.1 c.1 = 0
    · have eb := cmpB_eq e2
      rw [← eb, if_neg e1]
      exact h
    · rw [if_neg e2] at k
      have h3 := cmpB_trans h k
      rw [if_neg (by omega)]
      exact h3
theorem cN_irrefl (a : Nm) : ¬ cN a a < 0 := by rw [cN_self]; omega
/-- A contribution: so much of a name. -/
abbrev Ct := Nm × BitVec 128
/-- What there is of a name in all. -/
def sumAt : List Ct → Nm → BitVec 128
  | [], _ => 0
  | p :: l, n => (if p.1 = n then p.2 else 0) + sumAt l n
theorem sumAt_append (l m : List Ct) (n : Nm) : sumAt (l ++ m) n = sumAt l n + sumAt m n := by
  induction l with
  | nil => simp [sumAt]
  | cons p l ih => simp only [List.cons_append, sumAt, ih, BitVec.add_assoc]
theorem sumAt_perm {l m : List Ct} (h : l.Perm m) (n : Nm) : sumAt l n = sumAt m n := by
  induction h with
  | nil => rfl
  | cons p _ ih => simp only [sumAt, ih]
  | swap p q l => simp only [sumAt]; rw [← BitVec.add_assoc, ← BitVec.add_assoc, BitVec.add_comm (if q.1 = n then q.2 else 0)]
  | trans _ _ h1 h2 => exact h1.trans h2
theorem sumAt_none {l : List Ct} {n : Nm} (h : ∀ p ∈ l, p.1 ≠ n) : sumAt l n = 0 := by
  induction l with
  | nil => rfl
  | cons p l ih =>
    simp only [sumAt]
    rw [if_neg (h p (by simp)), ih fun q hq => h q (by simp [hq])]
    simp
/-- Totals: rising, none of 0, all that there is. -/
structure IsTot (f : Nm → BitVec 128) (l : List Ct) : Prop where
  rise : l.Pairwise fun p q => cN p.1 q.1 < 0
  says : ∀ p, p ∈ l → p.2 = f p.1 ∧ p.2 ≠ 0
  all : ∀ n, f n ≠ 0 → (n, f n) ∈ l
theorem IsTot.mem {f : Nm → BitVec 128} {l : List Ct} (h : IsTot f l) (p : Ct) : p ∈ l ↔ p.2 = f p.1 ∧ f p.1 ≠ 0 := by
  constructor
  · intro hp
    have := h.says p hp
    exact ⟨this.1, by rw [← this.1]; exact this.2⟩
  · rintro ⟨h1, h2⟩
    have := h.all p.1 h2
    rw [← h1] at this
    exact this
theorem rise_eq : ∀ {l m : List Ct}, l.Pairwise (fun p q => cN p.1 q.1 < 0) → m.Pairwise (fun p q => cN p.1 q.1 < 0) → (∀ p, p ∈ l ↔ p ∈ m) → l = m
  | [], [], _, _, _ => rfl
  | [], q :: m, _, _, h => absurd ((h q).2 (by simp)) (by simp)
  | p :: l, [], _, _, h => absurd ((h p).1 (by simp)) (by simp)
  | p :: l, q :: m, hl, hm, h => by
    obtain ⟨l1, l2⟩ := List.pairwise_cons.1 hl
    obtain ⟨m1, m2⟩ := List.pairwise_cons.1 hm
    have hpq : p = q := by
      rcases List.mem_cons.1 ((h p).1 (by simp)) with e | hp
      · exact e
      · rcases List.mem_cons.1 ((h q).2 (by simp)) with e | hq
        · exact e.symm
        · have a := m1 p hp
          have b := l1 q hq
          have c := cN_trans a b
          exact absurd c (cN_irrefl _)
    subst hpq
    have : l = m := rise_eq l2 m2 fun r => by
      constructor
      · intro hr
        rcases List.mem_cons.1 ((h r).1 (by simp [hr])) with e | k
        · subst e; exact absurd (l1 r hr) (cN_irrefl _)
        · exact k
      · intro hr
        rcases List.mem_cons.1 ((h r).2 (by simp [hr])) with e | k
        · subst e; exact absurd (m1 r hr) (cN_irrefl _)
        · exact k
    rw [this]
/-- There is one row of totals. -/
theorem IsTot.eq {f : Nm → BitVec 128} {l m : List Ct} (hl : IsTot f l) (hm : IsTot f m) : l = m := rise_eq hl.rise hm.rise fun p => (hl.mem p).trans (hm.mem p).symm
theorem IsTot.congr {f g : Nm → BitVec 128} {l : List Ct} (h : IsTot f l) (e : ∀ n, f n = g n) : IsTot g l := by
  have : f = g := funext e
  rwa [← this]
theorem sum_rise : ∀ {l : List Ct}, l.Pairwise (fun p q => cN p.1 q.1 < 0) → ∀ p ∈ l, sumAt l p.1 = p.2
  | [], _, p, h => absurd h (by simp)
  | q :: l, hl, p, h => by
    obtain ⟨l1, l2⟩ := List.pairwise_cons.1 hl
    rcases List.mem_cons.1 h with rfl | hp
    · simp only [sumAt, if_pos]
      rw [sumAt_none fun r hr e => by have := l1 r hr; rw [e] at this; exact cN_irrefl _ this]
      simp
    · simp only [sumAt]
      rw [if_neg (fun e => by have := l1 p hp; rw [e] at this; exact cN_irrefl _ this), sum_rise l2 p hp]
      simp
/-- Totals are their own sums. -/
theorem IsTot.sum {f : Nm → BitVec 128} {l : List Ct} (h : IsTot f l) (n : Nm) : sumAt l n = f n := by
  by_cases e : f n = 0
  · rw [e]
    exact sumAt_none fun p hp hn => by
      have := (h.mem p).1 hp
      rw [hn] at this
      exact this.2 e
  · exact sum_rise h.rise _ (h.all n e)
end Go.Proofs.Ytjngghihciimjaa
