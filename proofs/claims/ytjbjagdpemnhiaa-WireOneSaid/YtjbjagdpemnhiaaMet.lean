/-
  What a Put lays, and what the same ask tells of it: plain mathematics.
  Pick at any count: the remainder, never less than nought.
  The place that a reader of what was put stands at: whole, cut short, longer. Plain mathematics.
  ask: what the same ask as a Put tells, and leaves: numbers, texts, flags.
-/
import Derived.Test.YtjbjagdpemnhiaaRSts
import Derived.Test.YtjbjagdpemnhiaaGreat
import Derived.Test.YtjbjagdpemnhiaaRNil
import Derived.Test.YtjbjagdpemnhiaaTold
import Derived.Deep.RegionHeld3
namespace Go.Proofs.Ytjbjagdpemnhiaa
open Go.RowKit

def encN (n s : Nat) : Option (List UInt8) := if n / 2 ^ (8 * s) = 0 then some (beN n s) else none
/-- The bytes that a Put lays; none: it spoils. -/
def enc (p : PutD) : Option (List UInt8) :=
  if p.n0 % 10 = 0 then encN (low64 p.n1) 1 else
  if p.n0 % 10 = 1 then encN (low64 p.n1) 2 else
  if p.n0 % 10 = 2 then encN (low64 p.n1) 4 else
  if p.n0 % 10 = 3 then encN p.n2 8 else
  if p.n0 % 10 = 4 then encN p.n2 8 else
  if p.n0 % 10 = 5 then some p.hs else
  if p.n0 % 10 = 6 then some p.xs else
  if p.n0 % 10 = 7 then (if p.s.size < 65536 then some (beN p.s.size 2 ++ p.s.data.toList) else none) else
  if p.n0 % 10 = 8 then some [if p.n1 = 1 then 1 else 0] else
  if p.n1 = 7 then none else some []
theorem stepN_enc (l : List UInt8) (n s : Nat) : stepN (some l) n s = (encN n s).map (l ++ ·) := by
  simp only [stepN, encN, Option.bind_some]
  split <;> rfl
theorem step_enc (l : List UInt8) (p : PutD) : stepPut (some l) p.n0 p.n1 p.n2 p.hs p.xs p.s = (enc p).map (l ++ ·) := by
  unfold stepPut enc
  by_cases h : p.n0 % 10 = 0
  · rw [if_pos h, if_pos h]; exact stepN_enc ..
  rw [if_neg h, if_neg h]
  by_cases h : p.n0 % 10 = 1
  · rw [if_pos h, if_pos h]; exact stepN_enc ..
  rw [if_neg h, if_neg h]
  by_cases h : p.n0 % 10 = 2
  · rw [if_pos h, if_pos h]; exact stepN_enc ..
  rw [if_neg h, if_neg h]
  by_cases h : p.n0 % 10 = 3
  · rw [if_pos h, if_pos h]; exact stepN_enc ..
  rw [if_neg h, if_neg h]
  by_cases h : p.n0 % 10 = 4
  · rw [if_pos h, if_pos h]; exact stepN_enc ..
  rw [if_neg h, if_neg h]
  by_cases h : p.n0 % 10 = 5
  · rw [if_pos h, if_pos h]; rfl
  rw [if_neg h, if_neg h]
  by_cases h : p.n0 % 10 = 6
  · rw [if_pos h, if_pos h]; rfl
  rw [if_neg h, if_neg h]
  by_cases h : p.n0 % 10 = 7
  · rw [if_pos h, if_pos h]
    unfold stepText
    split <;> rfl
  rw [if_neg h, if_neg h]
  by_cases h : p.n0 % 10 = 8
  · rw [if_pos h, if_pos h]; rfl
  rw [if_neg h, if_neg h]
  by_cases h : p.n1 = 7
  · rw [if_pos h, if_pos h]; rfl
  rw [if_neg h, if_neg h]
  simp
theorem step_none (p : PutD) : stepPut none p.n0 p.n1 p.n2 p.hs p.xs p.s = none := by
  unfold stepPut stepText stepFlag stepN stepB
  simp
theorem beVal_beN (n s : Nat) (h : n / 2 ^ (8 * s) = 0) : beVal (beN n s) = n := by
  have key : ∀ t, t ≤ s → beVal ((beN n s).take t) = n / 2 ^ (8 * (s - t)) := by
    intro t
    induction t with
    | zero => intro _; rw [List.take_zero, Nat.sub_zero, h]; rfl
    | succ t ih =>
      intro ht
      rw [beN_take n s t (by omega), beVal_snoc, ih (by omega), UInt8.toNat_ofNat']
      have e : 8 * (s - t) = 8 * (s - 1 - t) + 8 := by omega
      have e2 : s - (t + 1) = s - 1 - t := by omega
      rw [e, e2, Nat.pow_add, ← Nat.div_div_eq_div_mul]
      generalize n / 2 ^ (8 * (s - 1 - t)) = m
      omega
  have := key s (Nat.le_refl _)
  rw [List.take_of_length_le (by rw [beN_length]; exact Nat.le_refl _), Nat.sub_self] at this
  simpa using this
/-- What the same ask tells, and leaves. -/
def qS (xs : List UInt8) (st : Option Nat) (p : PutD) : Option Nat :=
  if p.n0 % 10 = 0 then numS xs st 1 else if p.n0 % 10 = 1 then numS xs st 2 else if p.n0 % 10 = 2 then numS xs st 4 else if p.n0 % 10 = 3 then numS xs st 8 else if p.n0 % 10 = 4 then numS xs st 8 else
  if p.n0 % 10 = 5 then numS xs st 32 else if p.n0 % 10 = 6 then rawS xs st p.xs.length else if p.n0 % 10 = 7 then textS xs st p.s.size else if p.n0 % 10 = 8 then flagS xs st else st
def qB (xs : List UInt8) (st : Option Nat) (p : PutD) : Prop :=
  if p.n0 % 10 = 0 then (numV xs st 1 : Int) = p.n1 else if p.n0 % 10 = 1 then (numV xs st 2 : Int) = p.n1 else if p.n0 % 10 = 2 then (numV xs st 4 : Int) = p.n1 else if p.n0 % 10 = 3 then numV xs st 8 = p.n2 else if p.n0 % 10 = 4 then numV xs st 8 = p.n2 else
  if p.n0 % 10 = 5 then hashV xs st = p.hs else if p.n0 % 10 = 6 then rawV xs st p.xs.length = p.xs else if p.n0 % 10 = 7 then textV xs st p.s.size = p.s.data.toList else if p.n0 % 10 = 8 then flagV xs st = decide (p.n1 = 1) else True
theorem drop_len {xs e rest : List UInt8} {a : Nat} (h : xs.drop a = e ++ rest) (he : 0 < e.length) : a + e.length ≤ xs.length := by
  have := congrArg List.length h
  rw [List.length_drop, List.length_append] at this
  omega
theorem drop_take {xs e rest : List UInt8} {a : Nat} (h : xs.drop a = e ++ rest) : (xs.drop a).take e.length = e := by rw [h, List.take_left']; rfl
theorem num_met {xs rest : List UInt8} {a n s : Nat} (h0 : 0 < s) (hz : n / 2 ^ (8 * s) = 0) (h : xs.drop a = beN n s ++ rest) : numV xs (some a) s = n ∧ numS xs (some a) s = some (a + s) := by
  have hl := drop_len h (by rw [beN_length]; exact h0)
  have ht := drop_take h
  rw [beN_length] at hl ht
  simp only [numV, numS, if_pos hl, ht, beVal_beN n s hz, and_self]
theorem num_short {xs : List UInt8} {a s : Nat} (h : xs.length - a < s) (ha : a ≤ xs.length) : numS xs (some a) s = none := by
  simp only [numS, if_neg (show ¬ a + s ≤ xs.length by omega)]
theorem met (p : PutD) (W : World) (hok : p.Ok W) (xs e rest : List UInt8) (a : Nat) (ha : a ≤ xs.length) (he : enc p = some e) (h : xs.drop a = e ++ rest) : qB xs (some a) p ∧ qS xs (some a) p = some (a + e.length) := by
  have hlo := hok.lo
  have hhi := hok.hi
  have hlw := low64_eq p.n1
  unfold enc at he
  unfold qB qS
  by_cases hd : p.n0 % 10 = 0
  · simp only [if_pos hd] at he ⊢
    unfold encN at he
    split at he
    · rename_i hz
      cases he
      obtain ⟨h1, h2⟩ := num_met (by omega) hz h
      rw [h1, h2, beN_length]
      have : low64 p.n1 < 256 := by omega
      exact ⟨by omega, rfl⟩
    · cases he
  simp only [if_neg hd] at he ⊢
  by_cases hd : p.n0 % 10 = 1
  · simp only [if_pos hd] at he ⊢
    unfold encN at he
    split at he
    · rename_i hz
      cases he
      obtain ⟨h1, h2⟩ := num_met (by omega) hz h
      rw [h1, h2, beN_length]
      have : low64 p.n1 < 65536 := by omega
      exact ⟨by omega, rfl⟩
    · cases he
  simp only [if_neg hd] at he ⊢
  by_cases hd : p.n0 % 10 = 2
  · simp only [if_pos hd] at he ⊢
    unfold encN at he
    split at he
    · rename_i hz
      cases he
      obtain ⟨h1, h2⟩ := num_met (by omega) hz h
      rw [h1, h2, beN_length]
      have : low64 p.n1 < 4294967296 := by omega
      exact ⟨by omega, rfl⟩
    · cases he
  simp only [if_neg hd] at he ⊢
  by_cases hd : p.n0 % 10 = 3
  · simp only [if_pos hd] at he ⊢
    unfold encN at he
    split at he
    · rename_i hz
      cases he
      obtain ⟨h1, h2⟩ := num_met (by omega) hz h
      rw [h1, h2, beN_length]
      exact ⟨rfl, rfl⟩
    · cases he
  simp only [if_neg hd] at he ⊢
  by_cases hd : p.n0 % 10 = 4
  · simp only [if_pos hd] at he ⊢
    unfold encN at he
    split at he
    · rename_i hz
      cases he
      obtain ⟨h1, h2⟩ := num_met (by omega) hz h
      rw [h1, h2, beN_length]
      exact ⟨rfl, rfl⟩
    · cases he
  simp only [if_neg hd] at he ⊢
  by_cases hd : p.n0 % 10 = 5
  · simp only [if_pos hd] at he ⊢
    cases he
    have hl := drop_len h (by rw [hok.hlen]; omega)
    have ht := drop_take h
    rw [hok.hlen] at hl ht ⊢
    simp only [hashV, numS, if_pos hl, ht, and_self]
  simp only [if_neg hd] at he ⊢
  by_cases hd : p.n0 % 10 = 6
  · simp only [if_pos hd] at he ⊢
    cases he
    have hl : a + p.xs.length ≤ xs.length := by
      by_cases h0 : 0 < p.xs.length
      · exact drop_len h h0
      · omega
    have ht := drop_take h
    have hr : RawOk xs a (p.xs.length : Nat) := by unfold RawOk; omega
    simp only [rawV, rawS, if_pos hr, Int.toNat_natCast, ht, and_self]
  simp only [if_neg hd] at he ⊢
  by_cases hd : p.n0 % 10 = 7
  · simp only [if_pos hd] at he ⊢
    split at he
    · rename_i hs
      cases he
      have hln : (beN p.s.size 2 ++ p.s.data.toList).length = 2 + p.s.size := by rw [List.length_append, beN_length, str_len]
      have hl := drop_len h (by rw [hln]; omega)
      rw [hln] at hl ⊢
      have h2 : (xs.drop a).take 2 = beN p.s.size 2 := by
        rw [h, List.append_assoc, List.take_left' (by rw [beN_length])]
      have hz : p.s.size / 2 ^ (8 * 2) = 0 := Nat.div_eq_of_lt (by omega)
      have hv := beVal_beN p.s.size 2 hz
      have ht : TextOk xs a (p.s.size : Nat) := by
        unfold TextOk
        rw [h2, hv]
        omega
      simp only [textV, textS, if_pos ht, h2, hv]
      refine ⟨?_, by rw [Nat.add_assoc]⟩
      rw [← List.drop_drop, h, List.append_assoc, List.drop_left' (by rw [beN_length]), List.take_left' (by rw [str_len])]
    · cases he
  simp only [if_neg hd] at he ⊢
  by_cases hd : p.n0 % 10 = 8
  · simp only [if_pos hd] at he ⊢
    cases he
    have hl := drop_len h (by simp)
    have ht := drop_take h
    simp only [List.length_singleton] at hl ht ⊢
    by_cases h1 : p.n1 = 1
    · rw [if_pos h1] at ht
      have hv : beVal ((xs.drop a).take 1) = 1 := by rw [ht]; rfl
      have hf : FlagOk xs a := ⟨hl, by omega⟩
      simp only [flagV, flagS, if_pos hf, hv, h1, and_self]
    · rw [if_neg h1] at ht
      have hv : beVal ((xs.drop a).take 1) = 0 := by rw [ht]; rfl
      have hf : FlagOk xs a := ⟨hl, by omega⟩
      simp only [flagV, flagS, if_pos hf, hv]
      exact ⟨by simp [h1], trivial⟩
  simp only [if_neg hd] at he ⊢
  split at he
  · cases he
  · cases he
    exact ⟨trivial, by simp⟩
theorem unmet (p : PutD) (W : World) (hok : p.Ok W) (xs e : List UInt8) (a : Nat) (ha : a ≤ xs.length) (he : enc p = some e) (hs : xs.length - a < e.length) (h : xs.drop a = e.take (xs.length - a)) : qS xs (some a) p = none := by
  unfold enc at he
  unfold qS
  by_cases hd : p.n0 % 10 = 0
  · simp only [if_pos hd] at he ⊢
    unfold encN at he
    split at he
    · cases he; rw [beN_length] at hs; exact num_short hs ha
    · cases he
  simp only [if_neg hd] at he ⊢
  by_cases hd : p.n0 % 10 = 1
  · simp only [if_pos hd] at he ⊢
    unfold encN at he
    split at he
    · cases he; rw [beN_length] at hs; exact num_short hs ha
    · cases he
  simp only [if_neg hd] at he ⊢
  by_cases hd : p.n0 % 10 = 2
  · simp only [if_pos hd] at he ⊢
    unfold encN at he
    split at he
    · cases he; rw [beN_length] at hs; exact num_short hs ha
    · cases he
  simp only [if_neg hd] at he ⊢
  by_cases hd : p.n0 % 10 = 3
  · simp only [if_pos hd] at he ⊢
    unfold encN at he
    split at he
    · cases he; rw [beN_length] at hs; exact num_short hs ha
    · cases he
  simp only [if_neg hd] at he ⊢
  by_cases hd : p.n0 % 10 = 4
  · simp only [if_pos hd] at he ⊢
    unfold encN at he
    split at he
    · cases he; rw [beN_length] at hs; exact num_short hs ha
    · cases he
  simp only [if_neg hd] at he ⊢
  by_cases hd : p.n0 % 10 = 5
  · simp only [if_pos hd] at he ⊢
    cases he; rw [hok.hlen] at hs; exact num_short hs ha
  simp only [if_neg hd] at he ⊢
  by_cases hd : p.n0 % 10 = 6
  · simp only [if_pos hd] at he ⊢
    cases he
    have hr : ¬ RawOk xs a (p.xs.length : Nat) := by unfold RawOk; omega
    simp only [rawS, if_neg hr]
  simp only [if_neg hd] at he ⊢
  by_cases hd : p.n0 % 10 = 7
  · simp only [if_pos hd] at he ⊢
    split at he
    · rename_i hsz
      cases he
      rw [List.length_append, beN_length, str_len] at hs
      have ht : ¬ TextOk xs a (p.s.size : Nat) := by
        intro t
        have h2 : (xs.drop a).take 2 = beN p.s.size 2 := by
          have := t.1
          rw [h, List.take_take, Nat.min_eq_left (by omega), List.take_left' (by rw [beN_length])]
        have hv := beVal_beN p.s.size 2 (Nat.div_eq_of_lt (by omega))
        have := t.2.2
        rw [h2, hv] at this
        omega
      simp only [textS, if_neg ht]
    · cases he
  simp only [if_neg hd] at he ⊢
  by_cases hd : p.n0 % 10 = 8
  · simp only [if_pos hd] at he ⊢
    cases he
    simp only [List.length_singleton] at hs
    have hf : ¬ FlagOk xs a := fun t => by have := t.1; omega
    simp only [flagS, if_neg hf]
  simp only [if_neg hd] at he ⊢
  split at he
  · cases he
  · cases he; simp at hs
/-- The bytes of the first n; none: one of them spoils. -/
def encs (ps : List PutD) : Nat → Option (List UInt8)
  | 0 => some []
  | n + 1 => (encs ps n).bind fun l => (ps[n]?).bind fun p => (enc p).map (l ++ ·)
theorem encs_succ {ps : List PutD} {n : Nat} {p : PutD} (h : ps[n]? = some p) : encs ps (n + 1) = stepPut (encs ps n) p.n0 p.n1 p.n2 p.hs p.xs p.s := by
  cases he : encs ps n with
  | none => simp [encs, he, step_none]
  | some l => simp [encs, he, h, step_enc]
/-- Of what all lay, what the first n lay is the beginning; the next one's stands behind it. -/
theorem encs_begin {ps : List PutD} {l : List UInt8} : ∀ m n, encs ps m = some l → n ≤ m → ∃ l', encs ps n = some l' ∧ l' = l.take l'.length
  | 0, n, h, hn => by
    obtain rfl : n = 0 := by omega
    exact ⟨l, h, by simp⟩
  | m + 1, n, h, hn => by
    by_cases e : n = m + 1
    · subst e; exact ⟨l, h, by simp⟩
    · rw [encs] at h
      cases he : encs ps m with
      | none => rw [he] at h; cases h
      | some l0 =>
        rw [he, Option.bind_some] at h
        cases hp : ps[m]? with
        | none => rw [hp] at h; cases h
        | some p =>
          rw [hp, Option.bind_some] at h
          cases hq : enc p with
          | none => rw [hq] at h; cases h
          | some e0 =>
            rw [hq, Option.map_some] at h
            cases h
            obtain ⟨l', h1, h2⟩ := encs_begin m n he (by omega)
            refine ⟨l', h1, ?_⟩
            have hle : l'.length ≤ l0.length := by rw [h2]; simp; omega
            rw [List.take_append_of_le_length hle]
            exact h2
theorem encs_next {ps : List PutD} {l : List UInt8} {m n : Nat} {p : PutD} (h : encs ps m = some l) (hn : n < m) (hp : ps[n]? = some p) : ∃ l' e rest, encs ps n = some l' ∧ enc p = some e ∧ l.drop l'.length = e ++ rest ∧ l'.length ≤ l.length ∧ encs ps (n + 1) = some (l' ++ e) := by
  obtain ⟨l2, h1, h2⟩ := encs_begin m (n + 1) h (by omega)
  have h3 := h1
  rw [encs] at h3
  cases he : encs ps n with
  | none => rw [he] at h3; cases h3
  | some l' =>
    rw [he, hp, Option.bind_some, Option.bind_some] at h3
    cases hq : enc p with
    | none => rw [hq] at h3; cases h3
    | some e =>
      rw [hq, Option.map_some] at h3
      cases h3
      refine ⟨l', e, l.drop (l' ++ e).length, rfl, rfl, ?_, ?_, h1⟩
      · have h5 := (List.take_append_drop (l' ++ e).length l).symm
        rw [← h2] at h5
        exact (congrArg (List.drop l'.length) h5).trans (by rw [List.append_assoc, List.drop_left' rfl])
      · have := congrArg List.length h2
        rw [List.length_take, List.length_append] at this
        omega
end Go.Proofs.Ytjbjagdpemnhiaa
namespace Go.Proofs.Ytjbjagdpemnhiaa
open Go.RowKit

theorem tmod_any (n m : Int) (hm : 0 < m) : (0 ≤ n.tmod m → n.tmod m = n % m) ∧ (n.tmod m < 0 → n.tmod m + m = n % m) ∧ -m < n.tmod m ∧ n.tmod m < m := by
  have he := Int.mul_tdiv_add_tmod n m
  have hb : -m < n.tmod m ∧ n.tmod m < m := by
    rcases Int.le_total 0 n with h | h
    · have h1 := Int.tmod_eq_emod_of_nonneg (b := m) h
      have h2 := Int.emod_nonneg n (show m ≠ 0 by omega)
      have h3 := Int.emod_lt_of_pos n hm
      omega
    · have h1 := Int.tmod_eq_emod_of_nonneg (b := m) (show 0 ≤ -n by omega)
      rw [Int.neg_tmod] at h1
      have h2 := Int.emod_nonneg (-n) (show m ≠ 0 by omega)
      have h3 := Int.emod_lt_of_pos (-n) hm
      omega
  have key : n % m = n.tmod m % m := by
    have := congrArg (· % m) he
    simp only [Int.add_comm (m * n.tdiv m), Int.add_mul_emod_self_left] at this
    exact this.symm
  refine ⟨fun h => ?_, fun h => ?_, hb⟩
  · rw [key, Int.emod_eq_of_lt h hb.2]
  · have : n.tmod m % m = (n.tmod m + m) % m := by simp
    rw [key, this, Int.emod_eq_of_lt (by omega) (by omega)]
theorem pick_mod (n m : Int) (hm : 1 ≤ m) (hm2 : m < 9223372036854775808) (w : World) : Calls Try.prog 22 #[.int .i64 n, .int .i64 m] w fun e w' => e = .returned (.int .i64 (n % m)) ∧ w = w' := by
  obtain ⟨h1, h2, h3, h4⟩ := tmod_any n m (by omega)
  obtain ⟨r, hr⟩ : ∃ r, n.tmod m = r := ⟨_, rfl⟩
  rw [hr] at h1 h2 h3 h4
  obtain ⟨q, hq⟩ : ∃ q, q = n % m := ⟨_, rfl⟩
  rw [← hq] at h1 h2 ⊢
  have i1 : decide (m < 1) = false := by simp; omega
  have i2 : (m == 0) = false := by rw [beq_eq_false_iff_ne]; omega
  have hw : IntKind.i64.wrap r = r := by rw [IntKind.wrap_i64]; omega
  by_cases h : r < 0
  · have e := h2 h
    have hw2 : IntKind.i64.wrap (r + m) = q := by rw [IntKind.wrap_i64]; omega
    have i3 : decide (r < 0) = true := by simp; omega
    have HE := Lib.hid e
    clear h1 h2 hq e h3 h4 hm2
    go_enter Try.func22, Try.ntmps22
    go_wp2
    go_ret
    exact ⟨by rw [← HE.out]; rfl, rfl⟩
  · have e := h1 (by omega)
    have i3 : decide (r < 0) = false := by simp; omega
    subst e
    clear h1 h2 hq h3 h4 hm2
    go_enter Try.func22, Try.ntmps22
    go_wp2
    go_ret
    exact ⟨rfl, rfl⟩
end Go.Proofs.Ytjbjagdpemnhiaa
namespace Go.Proofs.Ytjbjagdpemnhiaa
open Go.RowKit

/-- Behind the first n. -/
def pl (ps : List PutD) (n : Nat) : Nat := ((encs ps n).getD []).length
theorem pl_zero (ps : List PutD) : pl ps 0 = 0 := rfl
theorem qS_none (xs : List UInt8) (p : PutD) : qS xs none p = none := by
  unfold qS numS rawS textS flagS
  simp
/-- What the bytes of the n-th are. -/
theorem place_next {ps : List PutD} {l : List UInt8} {m n : Nat} {p : PutD} (h : encs ps m = some l) (hn : n < m) (hp : ps[n]? = some p) :
    ∃ e rest, enc p = some e ∧ l.drop (pl ps n) = e ++ rest ∧ pl ps n ≤ l.length ∧ pl ps (n + 1) = pl ps n + e.length ∧ pl ps (n + 1) ≤ l.length := by
  obtain ⟨l', e, rest, h1, h2, h3, h4, h5⟩ := encs_next h hn hp
  have e1 : pl ps n = l'.length := by simp [pl, h1]
  have e2 : pl ps (n + 1) = l'.length + e.length := by simp [pl, h5]
  have e3 := congrArg List.length h3
  rw [List.length_drop, List.length_append] at e3
  refine ⟨e, rest, h2, by rw [e1]; exact h3, by omega, by omega, by omega⟩
/-- A reader of what stands there and of more behind it: met. -/
theorem place_met {ps : List PutD} {l : List UInt8} {m n : Nat} {p : PutD} (tail : List UInt8) (W : World) (hok : p.Ok W) (h : encs ps m = some l) (hn : n < m) (hp : ps[n]? = some p) :
    qB (l ++ tail) (some (pl ps n)) p ∧ qS (l ++ tail) (some (pl ps n)) p = some (pl ps (n + 1)) := by
  obtain ⟨e, rest, h1, h2, h3, h4, _⟩ := place_next h hn hp
  rw [h4]
  refine met p W hok (l ++ tail) e (rest ++ tail) (pl ps n) (by rw [List.length_append]; omega) h1 ?_
  rw [List.drop_append_of_le_length h3, h2, List.append_assoc]
/-- The state of a reader of the first k bytes alone. -/
def shortS (ps : List PutD) (k n : Nat) : Option Nat := if pl ps n ≤ k then some (pl ps n) else none
theorem place_short {ps : List PutD} {l : List UInt8} {m n k : Nat} {p : PutD} (W : World) (hok : p.Ok W) (h : encs ps m = some l) (hn : n < m) (hp : ps[n]? = some p) (hk : k ≤ l.length) :
    qS (l.take k) (shortS ps k n) p = shortS ps k (n + 1) := by
  obtain ⟨e, rest, h1, h2, h3, h4, _⟩ := place_next h hn hp
  have hlen : (l.take k).length = k := by rw [List.length_take]; omega
  have hdr : (l.take k).drop (pl ps n) = (e ++ rest).take (k - pl ps n) := by rw [List.drop_take, h2]
  unfold shortS
  by_cases ha : pl ps n ≤ k
  · rw [if_pos ha]
    by_cases hb : pl ps (n + 1) ≤ k
    · rw [if_pos hb, h4]
      have : (l.take k).drop (pl ps n) = e ++ rest.take (k - pl ps n - e.length) := by
        rw [hdr, List.take_append, List.take_of_length_le (by omega)]
      exact (met p W hok (l.take k) e _ (pl ps n) (by omega) h1 this).2
    · rw [if_neg hb]
      refine unmet p W hok (l.take k) e (pl ps n) (by omega) h1 (by omega) ?_
      rw [hdr, hlen, List.take_append_of_le_length (by omega)]
  · rw [if_neg ha, if_neg (by omega)]
    exact qS_none _ p
theorem pl_all {ps : List PutD} {l : List UInt8} {m : Nat} (h : encs ps m = some l) : pl ps m = l.length := by simp [pl, h]
theorem end_whole {ps : List PutD} {l : List UInt8} {m : Nat} (h : encs ps m = some l) : endV l (some (pl ps m)) = true := by
  rw [pl_all h]; simp [endV]
theorem end_long {ps : List PutD} {l : List UInt8} {m : Nat} (h : encs ps m = some l) (b : UInt8) : endV (l ++ [b]) (some (pl ps m)) = false := by
  rw [pl_all h]; simp [endV]
theorem end_short {ps : List PutD} {l : List UInt8} {m k : Nat} (h : encs ps m = some l) (hk : k < l.length) : endV (l.take k) (shortS ps k m) = false := by
  unfold shortS
  rw [pl_all h, if_neg (by omega)]
  rfl
end Go.Proofs.Ytjbjagdpemnhiaa
namespace Go.Proofs.Ytjbjagdpemnhiaa
open Go.RowKit

set_option maxRecDepth 100000 in
set_option maxHeartbeats 2000000 in
theorem ask_st0 (w : World) (g k : Nat) (xs : List UInt8) (c : Nat) (st : Option Nat) (cs : Array Value) (n0 n1 : Int) (n2 : Nat) (hs : List UInt8) (bv : Value) (s : ByteArray) (hV : PutV cs n0 n1 n2 hs bv s) (hd : n0 % 10 = 0) (h : RSt w g k xs c st) :
    Calls Try.prog 20 #[.pointer (some ⟨g, 0, none⟩), .agg cs] w fun e w' => (∃ r, e = .returned (.bool r) ∧ ((numV xs st 1 : Int) = n1 → r = true)) ∧ RSt w' g k xs c (numS xs st 1) ∧ Only g w w' none := by
  have hb : Below w.heap.size w (w.alloc (.cells cs 35)) := (Below.refl _ _).alloc (Nat.le_refl _) _
  have hbd : Below w.heap.size w (w.alloc (.cells cs 35)).drew := hb.drew
  have hl := Lies.new w cs 35
  have hlt := hl.lt
  have hgl := h.lt.1
  have c0 := hl.cell 0 hV.what
  have cF := hl.cell 1 hV.num
  have hpk := pick_any n0 (w.alloc (.cells cs 35))
  rw [hd] at hpk
  have hh := h.below hbd
  have HC := Lib.hid (ask25_st _ g k xs c st hh)
  have HP := Lib.hid hpk
  have HB := Lib.hid hbd
  have HG := Lib.hid (And.intro hlt (And.intro hgl cF))
  clear hpk hb hbd hh hl hd h hlt hgl hV
  go_enter Try.func20, Try.ntmps20
  go_wp2_with fail
  refine HP.out.mono ?_
  rintro e w1 ⟨rfl, rfl⟩
  clear c0
  go_wp2_with fail
  go_region_held3 (fun W => W.cell? ⟨w.heap.size, 1, none⟩ = some (.int .i64 n1)) (first | exact cF | exact g1) (first
    | ((with_reducible refine HC.out.mono ?_); rintro e w2 ⟨rfl, hr2, ho2⟩; have g1 := (ho2.cell (o := 1) HG.out.1 (by have := HG.out.2.1; omega)).trans HG.out.2.2))
  all_goals
    go_wp2_with fail
    go_ret
    exact ⟨⟨_, rfl, fun hq => by simp [hq]⟩, hr2, (only_below HB.out).trans0 ho2⟩
set_option maxRecDepth 100000 in
set_option maxHeartbeats 2000000 in
theorem ask_st1 (w : World) (g k : Nat) (xs : List UInt8) (c : Nat) (st : Option Nat) (cs : Array Value) (n0 n1 : Int) (n2 : Nat) (hs : List UInt8) (bv : Value) (s : ByteArray) (hV : PutV cs n0 n1 n2 hs bv s) (hd : n0 % 10 = 1) (h : RSt w g k xs c st) :
    Calls Try.prog 20 #[.pointer (some ⟨g, 0, none⟩), .agg cs] w fun e w' => (∃ r, e = .returned (.bool r) ∧ ((numV xs st 2 : Int) = n1 → r = true)) ∧ RSt w' g k xs c (numS xs st 2) ∧ Only g w w' none := by
  have hb : Below w.heap.size w (w.alloc (.cells cs 35)) := (Below.refl _ _).alloc (Nat.le_refl _) _
  have hbd : Below w.heap.size w (w.alloc (.cells cs 35)).drew := hb.drew
  have hl := Lies.new w cs 35
  have hlt := hl.lt
  have hgl := h.lt.1
  have c0 := hl.cell 0 hV.what
  have cF := hl.cell 1 hV.num
  have hpk := pick_any n0 (w.alloc (.cells cs 35))
  rw [hd] at hpk
  have hh := h.below hbd
  have HC := Lib.hid (ask53_st _ g k xs c st hh)
  have HP := Lib.hid hpk
  have HB := Lib.hid hbd
  have HG := Lib.hid (And.intro hlt (And.intro hgl cF))
  clear hpk hb hbd hh hl hd h hlt hgl hV
  go_enter Try.func20, Try.ntmps20
  go_wp2_with fail
  refine HP.out.mono ?_
  rintro e w1 ⟨rfl, rfl⟩
  clear c0
  go_wp2_with fail
  go_region_held3 (fun W => W.cell? ⟨w.heap.size, 1, none⟩ = some (.int .i64 n1)) (first | exact cF | exact g1) (first
    | ((with_reducible refine HC.out.mono ?_); rintro e w2 ⟨rfl, hr2, ho2⟩; have g1 := (ho2.cell (o := 1) HG.out.1 (by have := HG.out.2.1; omega)).trans HG.out.2.2))
  all_goals
    go_wp2_with fail
    go_ret
    exact ⟨⟨_, rfl, fun hq => by simp [hq]⟩, hr2, (only_below HB.out).trans0 ho2⟩
set_option maxRecDepth 100000 in
set_option maxHeartbeats 2000000 in
theorem ask_st2 (w : World) (g k : Nat) (xs : List UInt8) (c : Nat) (st : Option Nat) (cs : Array Value) (n0 n1 : Int) (n2 : Nat) (hs : List UInt8) (bv : Value) (s : ByteArray) (hV : PutV cs n0 n1 n2 hs bv s) (hd : n0 % 10 = 2) (h : RSt w g k xs c st) :
    Calls Try.prog 20 #[.pointer (some ⟨g, 0, none⟩), .agg cs] w fun e w' => (∃ r, e = .returned (.bool r) ∧ ((numV xs st 4 : Int) = n1 → r = true)) ∧ RSt w' g k xs c (numS xs st 4) ∧ Only g w w' none := by
  have hb : Below w.heap.size w (w.alloc (.cells cs 35)) := (Below.refl _ _).alloc (Nat.le_refl _) _
  have hbd : Below w.heap.size w (w.alloc (.cells cs 35)).drew := hb.drew
  have hl := Lies.new w cs 35
  have hlt := hl.lt
  have hgl := h.lt.1
  have c0 := hl.cell 0 hV.what
  have cF := hl.cell 1 hV.num
  have hpk := pick_any n0 (w.alloc (.cells cs 35))
  rw [hd] at hpk
  have hh := h.below hbd
  have HC := Lib.hid (ask54_st _ g k xs c st hh)
  have HP := Lib.hid hpk
  have HB := Lib.hid hbd
  have HG := Lib.hid (And.intro hlt (And.intro hgl cF))
  clear hpk hb hbd hh hl hd h hlt hgl hV
  go_enter Try.func20, Try.ntmps20
  go_wp2_with fail
  refine HP.out.mono ?_
  rintro e w1 ⟨rfl, rfl⟩
  clear c0
  go_wp2_with fail
  go_region_held3 (fun W => W.cell? ⟨w.heap.size, 1, none⟩ = some (.int .i64 n1)) (first | exact cF | exact g1) (first
    | ((with_reducible refine HC.out.mono ?_); rintro e w2 ⟨rfl, hr2, ho2⟩; have g1 := (ho2.cell (o := 1) HG.out.1 (by have := HG.out.2.1; omega)).trans HG.out.2.2))
  all_goals
    go_wp2_with fail
    go_ret
    exact ⟨⟨_, rfl, fun hq => by simp [hq]⟩, hr2, (only_below HB.out).trans0 ho2⟩
set_option maxRecDepth 100000 in
set_option maxHeartbeats 2000000 in
theorem ask_st3 (w : World) (g k : Nat) (xs : List UInt8) (c : Nat) (st : Option Nat) (cs : Array Value) (n0 n1 : Int) (n2 : Nat) (hs : List UInt8) (bv : Value) (s : ByteArray) (hV : PutV cs n0 n1 n2 hs bv s) (hd : n0 % 10 = 3) (h : RSt w g k xs c st) :
    Calls Try.prog 20 #[.pointer (some ⟨g, 0, none⟩), .agg cs] w fun e w' => (∃ r, e = .returned (.bool r) ∧ (numV xs st 8 = n2 → r = true)) ∧ RSt w' g k xs c (numS xs st 8) ∧ Only g w w' none := by
  have hb : Below w.heap.size w (w.alloc (.cells cs 35)) := (Below.refl _ _).alloc (Nat.le_refl _) _
  have hbd : Below w.heap.size w (w.alloc (.cells cs 35)).drew := hb.drew
  have hl := Lies.new w cs 35
  have hlt := hl.lt
  have hgl := h.lt.1
  have c0 := hl.cell 0 hV.what
  have cF := hl.cell 2 hV.wide
  have hpk := pick_any n0 (w.alloc (.cells cs 35))
  rw [hd] at hpk
  have hh := h.below hbd
  have HC := Lib.hid (ask55_st _ g k xs c st hh)
  have HP := Lib.hid hpk
  have HB := Lib.hid hbd
  have HG := Lib.hid (And.intro hlt (And.intro hgl cF))
  clear hpk hb hbd hh hl hd h hlt hgl hV
  go_enter Try.func20, Try.ntmps20
  go_wp2_with fail
  refine HP.out.mono ?_
  rintro e w1 ⟨rfl, rfl⟩
  clear c0
  go_wp2_with fail
  go_region_held3 (fun W => W.cell? ⟨w.heap.size, 2, none⟩ = some (.int .u64 n2)) (first | exact cF | exact g1) (first
    | ((with_reducible refine HC.out.mono ?_); rintro e w2 ⟨rfl, hr2, ho2⟩; have g1 := (ho2.cell (o := 2) HG.out.1 (by have := HG.out.2.1; omega)).trans HG.out.2.2))
  all_goals
    go_wp2_with fail
    go_ret
    exact ⟨⟨_, rfl, fun hq => by simp [hq]⟩, hr2, (only_below HB.out).trans0 ho2⟩
set_option maxRecDepth 100000 in
set_option maxHeartbeats 2000000 in
theorem ask_st4 (w : World) (g k : Nat) (xs : List UInt8) (c : Nat) (st : Option Nat) (cs : Array Value) (n0 n1 : Int) (n2 : Nat) (hs : List UInt8) (bv : Value) (s : ByteArray) (hV : PutV cs n0 n1 n2 hs bv s) (hd : n0 % 10 = 4) (h : RSt w g k xs c st) :
    Calls Try.prog 20 #[.pointer (some ⟨g, 0, none⟩), .agg cs] w fun e w' => (∃ r, e = .returned (.bool r) ∧ (numV xs st 8 = n2 → r = true)) ∧ RSt w' g k xs c (numS xs st 8) ∧ Only g w w' none := by
  have hb : Below w.heap.size w (w.alloc (.cells cs 35)) := (Below.refl _ _).alloc (Nat.le_refl _) _
  have hbd : Below w.heap.size w (w.alloc (.cells cs 35)).drew := hb.drew
  have hl := Lies.new w cs 35
  have hlt := hl.lt
  have hgl := h.lt.1
  have c0 := hl.cell 0 hV.what
  have cF := hl.cell 2 hV.wide
  have hpk := pick_any n0 (w.alloc (.cells cs 35))
  rw [hd] at hpk
  have hh := h.below hbd
  have HC := Lib.hid (ask56_st _ g k xs c st hh)
  have HP := Lib.hid hpk
  have HB := Lib.hid hbd
  have HG := Lib.hid (And.intro hlt (And.intro hgl cF))
  clear hpk hb hbd hh hl hd h hlt hgl hV
  go_enter Try.func20, Try.ntmps20
  go_wp2_with fail
  refine HP.out.mono ?_
  rintro e w1 ⟨rfl, rfl⟩
  clear c0
  go_wp2_with fail
  go_region_held3 (fun W => W.cell? ⟨w.heap.size, 2, none⟩ = some (.int .u64 n2)) (first | exact cF | exact g1) (first
    | ((with_reducible refine HC.out.mono ?_); rintro e w2 ⟨rfl, hr2, ho2⟩; have g1 := (ho2.cell (o := 2) HG.out.1 (by have := HG.out.2.1; omega)).trans HG.out.2.2))
  all_goals
    go_wp2_with fail
    go_ret
    exact ⟨⟨_, rfl, fun hq => by simp [hq]⟩, hr2, (only_below HB.out).trans0 ho2⟩
set_option maxRecDepth 100000 in
set_option maxHeartbeats 2000000 in
theorem ask_st7 (w : World) (g k : Nat) (xs : List UInt8) (c : Nat) (st : Option Nat) (cs : Array Value) (n0 n1 : Int) (n2 : Nat) (hs : List UInt8) (bv : Value) (s : ByteArray) (hV : PutV cs n0 n1 n2 hs bv s) (hd : n0 % 10 = 7) (h : RSt w g k xs c st) :
    Calls Try.prog 20 #[.pointer (some ⟨g, 0, none⟩), .agg cs] w fun e w' => (∃ r, e = .returned (.bool r) ∧ (textV xs st s.size = s.data.toList → r = true)) ∧ RSt w' g k xs c (textS xs st s.size) ∧ Only g w w' none := by
  have hb : Below w.heap.size w (w.alloc (.cells cs 35)) := (Below.refl _ _).alloc (Nat.le_refl _) _
  have hbd : Below w.heap.size w (w.alloc (.cells cs 35)).drew := hb.drew
  have hl := Lies.new w cs 35
  have hlt := hl.lt
  have hgl := h.lt.1
  have c0 := hl.cell 0 hV.what
  have cF := hl.cell 36 hV.text
  have hpk := pick_any n0 (w.alloc (.cells cs 35))
  rw [hd] at hpk
  have hh := h.below hbd
  have HC := Lib.hid (text_rst _ g k xs c st s.size hh)
  have HP := Lib.hid hpk
  have HB := Lib.hid hbd
  have HG := Lib.hid (And.intro hlt (And.intro hgl cF))
  clear hpk hb hbd hh hl hd h hlt hgl hV
  go_enter Try.func20, Try.ntmps20
  go_wp2_with fail
  refine HP.out.mono ?_
  rintro e w1 ⟨rfl, rfl⟩
  clear c0
  go_wp2_with fail
  go_region_held3 (fun W => W.cell? ⟨w.heap.size, 36, none⟩ = some (.string s)) (first | exact cF | exact g1) (first
    | ((with_reducible refine HC.out.mono ?_); rintro e w2 ⟨rfl, hr2, ho2⟩; have g1 := (ho2.cell (o := 36) HG.out.1 (by have := HG.out.2.1; omega)).trans HG.out.2.2))
  all_goals
    go_wp2_with fail
    go_ret
    exact ⟨⟨_, rfl, fun hq => by simp [hq, ByteArray.toList_eq]⟩, hr2, (only_below HB.out).trans0 ho2⟩
set_option maxRecDepth 100000 in
set_option maxHeartbeats 2000000 in
theorem ask_st8 (w : World) (g k : Nat) (xs : List UInt8) (c : Nat) (st : Option Nat) (cs : Array Value) (n0 n1 : Int) (n2 : Nat) (hs : List UInt8) (bv : Value) (s : ByteArray) (hV : PutV cs n0 n1 n2 hs bv s) (hd : n0 % 10 = 8) (h : RSt w g k xs c st) :
    Calls Try.prog 20 #[.pointer (some ⟨g, 0, none⟩), .agg cs] w fun e w' => (∃ r, e = .returned (.bool r) ∧ (flagV xs st = decide (n1 = 1) → r = true)) ∧ RSt w' g k xs c (flagS xs st) ∧ Only g w w' none := by
  have hb : Below w.heap.size w (w.alloc (.cells cs 35)) := (Below.refl _ _).alloc (Nat.le_refl _) _
  have hbd : Below w.heap.size w (w.alloc (.cells cs 35)).drew := hb.drew
  have hl := Lies.new w cs 35
  have hlt := hl.lt
  have hgl := h.lt.1
  have c0 := hl.cell 0 hV.what
  have cF := hl.cell 1 hV.num
  have hpk := pick_any n0 (w.alloc (.cells cs 35))
  rw [hd] at hpk
  have hh := h.below hbd
  have HC := Lib.hid (flag_rst _ g k xs c st hh)
  have HP := Lib.hid hpk
  have HB := Lib.hid hbd
  have HG := Lib.hid (And.intro hlt (And.intro hgl cF))
  clear hpk hb hbd hh hl hd h hlt hgl hV
  go_enter Try.func20, Try.ntmps20
  go_wp2_with fail
  refine HP.out.mono ?_
  rintro e w1 ⟨rfl, rfl⟩
  clear c0
  go_wp2_with fail
  go_region_held3 (fun W => W.cell? ⟨w.heap.size, 1, none⟩ = some (.int .i64 n1)) (first | exact cF | exact g1) (first
    | ((with_reducible refine HC.out.mono ?_); rintro e w2 ⟨rfl, hr2, ho2⟩; have g1 := (ho2.cell (o := 1) HG.out.1 (by have := HG.out.2.1; omega)).trans HG.out.2.2))
  all_goals
    go_wp2_with fail
    go_ret
    exact ⟨⟨_, rfl, fun hq => by rw [hq]; by_cases h1 : n1 = 1 <;> simp [h1]⟩, hr2, (only_below HB.out).trans0 ho2⟩
theorem eqItems_any (l m : List UInt8) (d : Nat) : ∀ is : List Nat, (∀ j, j ∈ is → j < l.length ∧ j < m.length) → ∃ b, ∀ w, (Op.eqItems (d + 1) 5 1 (B8 l) (B8 m) is).run Try.prog w = .ok b w
  | [], _ => ⟨true, fun w => by simp [Op.eqItems]⟩
  | j :: is, h => by
    have hp := fun w => run_part_plain (P := Try.prog) w plain5 (B8_get l j (h j (by simp)).1)
    have hq := fun w => run_part_plain (P := Try.prog) w plain5 (B8_get m j (h j (by simp)).2)
    obtain ⟨b, ih⟩ := eqItems_any l m d is (fun i hi => h i (by simp [hi]))
    cases hb : (((l.getD j 0).toNat : Int) == ((m.getD j 0).toNat : Int)) with
    | true => exact ⟨b, fun w => by simp only [Op.eqItems, Sem.run_bind, Nat.mul_one, hp, hq, Result.andThen_ok, run_equalIn_int w d 5 .u8 .u8 _ _ Try.underlying5, hb, Bool.not_true, Bool.false_eq_true, if_false, ih]⟩
    | false => exact ⟨false, fun w => by simp only [Op.eqItems, Sem.run_bind, Nat.mul_one, hp, hq, Result.andThen_ok, run_equalIn_int w d 5 .u8 .u8 _ _ Try.underlying5, hb, Bool.not_false, if_true, Sem.run_pure]⟩
theorem equal_hash (l m : List UInt8) (hl : l.length = 32) (hm : m.length = 32) : ∃ b, (l = m → b = true) ∧ ∀ w, (Op.equalIn 10000 33 (.agg (B8 l)) (.agg (B8 m))).run Try.prog w = .ok b w := by
  obtain ⟨i0, hi0, _⟩ := info_parts info5
  by_cases he : l = m
  · subst he
    refine ⟨true, fun _ => rfl, fun w => ?_⟩
    have := run_equalIn_array (P := Try.prog) w 9999 (B8 l) (B8 l) Try.underlying33 hi0
    rw [cells5, eqItems_same l 9998 w _ (fun j hj => by rw [hl]; simpa using hj)] at this
    exact this
  · obtain ⟨b, hb⟩ := eqItems_any l m 9998 (List.range 32) (fun j hj => by rw [hl, hm]; simpa using hj)
    refine ⟨b, fun h => absurd h he, fun w => ?_⟩
    have := run_equalIn_array (P := Try.prog) w 9999 (B8 l) (B8 m) Try.underlying33 hi0
    rw [cells5, hb] at this
    exact this
theorem hashV_length (xs : List UInt8) (st : Option Nat) : (hashV xs st).length = 32 := by
  unfold hashV
  split
  · split
    · rw [List.length_take, List.length_drop]; omega
    · simp
  · simp
theorem range_at {V : World} {b : Nat} {cs : Array Value} {hs : List UInt8} (hl : Lies V b cs 35) (hh : (cs.toList.drop 3).take 32 = (B8 hs).toList) : V.rangeAt b 3 (B8 hs).toList := by
  intro j v hv
  rw [← hh] at hv
  have hj := (List.getElem?_eq_some_iff.1 hv).1
  rw [List.length_take] at hj
  rw [List.getElem?_take_of_lt (by omega), List.getElem?_drop, Array.getElem?_toList] at hv
  exact hl.cell (3 + j) hv
theorem raw_text {W : World} {v : Value} {xs : List UInt8} (h : RawIn W v xs) : (convert 28 9 v).run Try.prog W = .ok (.string ⟨xs.toArray⟩) W := by
  rcases h with ⟨rfl, rfl⟩ | ⟨ad, c, rfl, hs⟩
  · rw [run_convert_bytes_string W 28 9 5 none 0 0 Try.underlying28 Try.underlying5 Try.underlying9]
    simp [Conv.bytesToString]
    rfl
  · exact run_convert_bytes_back W 28 9 5 ad c xs Try.underlying28 Try.underlying5 Try.underlying9 (fun j hj => hs j _ (by simp [B8, hj]))
theorem raw_form {W : World} {v : Value} {xs : List UInt8} (h : RawIn W v xs) : ∃ A c, v = .slice A xs.length c := by
  rcases h with ⟨rfl, rfl⟩ | ⟨ad, c, rfl, hs⟩
  · exact ⟨none, 0, rfl⟩
  · exact ⟨some ad, c, rfl⟩
theorem Only.other {g g2 : Nat} {w w' : World} {cs : Array Value} (h : Only g w w' none) (hl : Lies w g2 cs 35) (hne : g2 ≠ g) : Lies w' g2 cs 35 := h.lies hl hne
set_option maxRecDepth 100000 in
set_option maxHeartbeats 2000000 in
theorem ask_st5 (w : World) (g k : Nat) (xs : List UInt8) (c : Nat) (st : Option Nat) (cs : Array Value) (n0 n1 : Int) (n2 : Nat) (hs : List UInt8) (bv : Value) (s : ByteArray) (hV : PutV cs n0 n1 n2 hs bv s) (hd : n0 % 10 = 5) (h : RSt w g k xs c st) :
    Calls Try.prog 20 #[.pointer (some ⟨g, 0, none⟩), .agg cs] w fun e w' => (∃ r, e = .returned (.bool r) ∧ (hashV xs st = hs → r = true)) ∧ RSt w' g k xs c (numS xs st 32) ∧ Only g w w' none := by
  have hb : Below w.heap.size w (w.alloc (.cells cs 35)) := (Below.refl _ _).alloc (Nat.le_refl _) _
  have hbd : Below w.heap.size w (w.alloc (.cells cs 35)).drew := hb.drew
  have hl := Lies.new w cs 35
  have hlt := hl.lt
  have hgl := h.lt.1
  have c0 := hl.cell 0 hV.what
  have hrl : ∀ V, Lies V w.heap.size cs 35 → V.rangeAt w.heap.size 3 (B8 hs).toList := fun V h => range_at h hV.hash
  have size33 : (Try.prog.info? 33).map (·.size) = some (B8 hs).toList.length := by
    rw [Array.length_toList, B8_size, hV.hlen]; kernel_rfl
  have under33 := Try.underlying33
  have hpk := pick_any n0 (w.alloc (.cells cs 35))
  rw [hd] at hpk
  have hh := h.below hbd
  have heq := equal_hash (hashV xs st) hs (hashV_length xs st) hV.hlen
  have HC := Lib.hid (hash_rst _ g k xs c st hh)
  have HP := Lib.hid hpk
  have HB := Lib.hid hbd
  have HG := Lib.hid (And.intro hlt (And.intro hgl (And.intro hl.drew hrl)))
  obtain ⟨b, hb1, hb2⟩ := heq
  clear hpk hb hbd hh hl hd h hlt hgl hV hrl
  go_enter Try.func20, Try.ntmps20
  go_wp2_with fail
  refine HP.out.mono ?_
  rintro e w1 ⟨rfl, rfl⟩
  clear c0
  go_wp2_with fail
  go_region_held3 (fun W => W.rangeAt w.heap.size 3 (B8 hs).toList) (first | exact HG.out.2.2.2 _ HG.out.2.2.1 | exact g1) (first
    | ((with_reducible refine HC.out.mono ?_); rintro e w2 ⟨rfl, hr2, ho2⟩; have g1 := HG.out.2.2.2 _ (ho2.lies HG.out.2.2.1 (by have := HG.out.2.1; omega))))
  all_goals
    go_wp2_with fail
    go_ret
    exact ⟨⟨_, rfl, fun hq => by simp [hb1 hq]⟩, hr2, (only_below HB.out).trans0 ho2⟩
set_option maxRecDepth 100000 in
set_option maxHeartbeats 2000000 in
theorem ask_st6 (w : World) (g k : Nat) (xs : List UInt8) (c : Nat) (st : Option Nat) (cs : Array Value) (n0 n1 : Int) (n2 : Nat) (hs : List UInt8) (bv : Value) (px : List UInt8) (s : ByteArray) (hV : PutV cs n0 n1 n2 hs bv s) (hraw : ∀ V, Only g w V none → RawIn V bv px) (hd : n0 % 10 = 6) (h : RSt w g k xs c st) :
    Calls Try.prog 20 #[.pointer (some ⟨g, 0, none⟩), .agg cs] w fun e w' => (∃ r, e = .returned (.bool r) ∧ (rawV xs st px.length = px → r = true)) ∧ RSt w' g k xs c (rawS xs st px.length) ∧ Only g w w' none := by
  have hb : Below w.heap.size w (w.alloc (.cells cs 35)) := (Below.refl _ _).alloc (Nat.le_refl _) _
  have hbd : Below w.heap.size w (w.alloc (.cells cs 35)).drew := hb.drew
  obtain ⟨A, cp, rfl⟩ := raw_form (hraw _ (only_below hbd))
  have hl := Lies.new w cs 35
  have hlt := hl.lt
  have hgl := h.lt.1
  have c0 := hl.cell 0 hV.what
  have cF := hl.cell 35 hV.raw
  have htx : ∀ V, Only g w V none → (convert 28 9 (.slice A px.length cp)).run Try.prog V = .ok (.string ⟨px.toArray⟩) V := fun V h => raw_text (hraw V h)
  have hpk := pick_any n0 (w.alloc (.cells cs 35))
  rw [hd] at hpk
  have hh := h.below hbd
  have HC := Lib.hid (raw_rst _ g k xs c st px.length hh)
  have HP := Lib.hid hpk
  have HB := Lib.hid hbd
  have HT := Lib.hid htx
  have HG := Lib.hid (And.intro hlt (And.intro hgl cF))
  clear hpk hb hbd hh hl hd h hlt hgl hV hraw htx
  go_enter Try.func20, Try.ntmps20
  go_wp2_with fail
  refine HP.out.mono ?_
  rintro e w1 ⟨rfl, rfl⟩
  clear c0
  go_wp2_with fail
  have t0 := HT.out _ (only_below HB.out)
  go_region_with (first
    | ((with_reducible refine HC.out.mono ?_); rintro e w2 ⟨v, rfl, hown2, hr2, ho2⟩; have g1 := (ho2.cell (o := 35) HG.out.1 (by have := HG.out.2.1; omega)).trans HG.out.2.2; have g2 := HT.out _ ((only_below HB.out).trans0 ho2); have g3 := own_text hown2))
  all_goals
    go_wp2_with fail
    go_ret
    exact ⟨⟨_, rfl, fun hq => by simp [hq]⟩, hr2, (only_below HB.out).trans0 ho2⟩
set_option maxRecDepth 100000 in
theorem ask_st9 (w : World) (g k : Nat) (xs : List UInt8) (c : Nat) (st : Option Nat) (cs : Array Value) (n0 n1 : Int) (n2 : Nat) (hs : List UInt8) (bv : Value) (s : ByteArray) (hV : PutV cs n0 n1 n2 hs bv s) (hd : n0 % 10 = 9) (h : RSt w g k xs c st) :
    Calls Try.prog 20 #[.pointer (some ⟨g, 0, none⟩), .agg cs] w fun e w' => (∃ r, e = .returned (.bool r) ∧ r = true) ∧ RSt w' g k xs c st ∧ Only g w w' none := by
  have hb : Below w.heap.size w (w.alloc (.cells cs 35)) := (Below.refl _ _).alloc (Nat.le_refl _) _
  have hl := Lies.new w cs 35
  have c0 := hl.cell 0 hV.what
  have hpk := pick_any n0 (w.alloc (.cells cs 35))
  rw [hd] at hpk
  have hh := h.below hb
  have HP := Lib.hid hpk
  have HH := Lib.hid (And.intro hh hb)
  clear hpk hb hh hl hd h hV
  go_enter Try.func20, Try.ntmps20
  go_wp2_with fail
  refine HP.out.mono ?_
  rintro e w1 ⟨rfl, rfl⟩
  go_wp2_with fail
  go_ret
  exact ⟨⟨_, rfl, rfl⟩, HH.out.1, only_below HH.out.2⟩
/-- ask, at any Put. -/
theorem ask_any (w : World) (g k : Nat) (xs : List UInt8) (c : Nat) (st : Option Nat) (p : PutD) (hok : p.Ok w) (hraw : ∀ V, Only g w V none → RawIn V p.bv p.xs) (h : RSt w g k xs c st) :
    Calls Try.prog 20 #[.pointer (some ⟨g, 0, none⟩), .agg p.cells] w fun e w' => (∃ r, e = .returned (.bool r) ∧ (qB xs st p → r = true)) ∧ RSt w' g k xs c (qS xs st p) ∧ Only g w w' none := by
  have hV := PutD.v hok
  unfold qB qS
  by_cases hd : p.n0 % 10 = 0
  · simp only [if_pos hd]; exact ask_st0 w g k xs c st _ _ _ _ _ _ _ hV hd h
  simp only [if_neg hd]
  by_cases hd : p.n0 % 10 = 1
  · simp only [if_pos hd]; exact ask_st1 w g k xs c st _ _ _ _ _ _ _ hV hd h
  simp only [if_neg hd]
  by_cases hd : p.n0 % 10 = 2
  · simp only [if_pos hd]; exact ask_st2 w g k xs c st _ _ _ _ _ _ _ hV hd h
  simp only [if_neg hd]
  by_cases hd : p.n0 % 10 = 3
  · simp only [if_pos hd]; exact ask_st3 w g k xs c st _ _ _ _ _ _ _ hV hd h
  simp only [if_neg hd]
  by_cases hd : p.n0 % 10 = 4
  · simp only [if_pos hd]; exact ask_st4 w g k xs c st _ _ _ _ _ _ _ hV hd h
  simp only [if_neg hd]
  by_cases hd : p.n0 % 10 = 5
  · simp only [if_pos hd]; exact ask_st5 w g k xs c st _ _ _ _ _ _ _ hV hd h
  simp only [if_neg hd]
  by_cases hd : p.n0 % 10 = 6
  · simp only [if_pos hd]; exact ask_st6 w g k xs c st _ _ _ _ _ _ _ _ hV hraw hd h
  simp only [if_neg hd]
  by_cases hd : p.n0 % 10 = 7
  · simp only [if_pos hd]; exact ask_st7 w g k xs c st _ _ _ _ _ _ _ hV hd h
  simp only [if_neg hd]
  by_cases hd : p.n0 % 10 = 8
  · simp only [if_pos hd]; exact ask_st8 w g k xs c st _ _ _ _ _ _ _ hV hd h
  simp only [if_neg hd]
  refine (ask_st9 w g k xs c st _ _ _ _ _ _ _ hV (by omega) h).mono ?_
  rintro e w' ⟨⟨r, he, hr⟩, h2⟩
  exact ⟨⟨r, he, fun _ => hr⟩, h2⟩
end Go.Proofs.Ytjbjagdpemnhiaa
