/-
  float's calls over one real, its truths, whole numbers. No condition but words of 64 bits.
-/
import Derived.Test.YtieoiklgoeclaaaGreatFCalls
namespace Go.Proofs.YtieoiklgoeclaaaGreat
open Go.RowKit

/-- What a closure over one number does. -/
structure Clo1 (k : Nat) (f : Nat → Option Nat) (a : Nat) : Prop where
  enters : ∀ (cap : Array Value) (w : World), (callFunc k cap).run Tryz.prog w = .ok (.enter k cap) w
  fine : ∀ r, noneB a = false → f a = some r → noneB r = false
  gives : ∀ (w : World) (p r : Nat), w.cell? ⟨p, 0, none⟩ = some (.float .f64 a) → f a = some r →
    Calls Tryz.prog k #[.pointer (some ⟨p, 0, none⟩)] w fun e w' => e = .returned (.float .f64 r) ∧ Below w.heap.size w w'
  nan : ∀ (w : World) (p : Nat), w.cell? ⟨p, 0, none⟩ = some (.float .f64 a) → f a = none →
    Calls Tryz.prog k #[.pointer (some ⟨p, 0, none⟩)] w fun e w' => ∃ r, noneB r = true ∧ e = .returned (.float .f64 r) ∧ Below w.heap.size w w'
def tell1 (f : Nat → Option Nat) (a : Nat) : Nat := (if noneB a then none else f a).getD NAN
def W1 (w : World) (a : Nat) : World := (w.alloc (.cells #[.float .f64 a] 84)).alloc (.cells #[.float .f64 a] 84)
theorem W1_below (w : World) (a : Nat) : Below w.heap.size w (W1 w a) := ((Below.refl _ _).alloc (Nat.le_refl _) _).alloc (by simp) _
theorem W1_size (w : World) (a : Nat) : (W1 w a).heap.size = w.heap.size + 2 := by simp [W1]
theorem W1_nums (w : World) (a : Nat) : Nums (W1 w a) (w.heap.size + 1) [a] := by
  have := nums_one (w.alloc (.cells #[.float .f64 a] 84)) a
  unfold W1
  simpa using this
theorem W1_fst (w : World) (a : Nat) : (W1 w a).cell? ⟨w.heap.size, 0, none⟩ = some (.float .f64 a) := by simp [W1, go_sem]
theorem bits_one {k : Nat} {f : Nat → Option Nat} {a : Nat} (hc : Clo1 k f a) (w : World) :
    Calls Tryz.prog 99 #[.func (Fn.func k) #[] #[.pointer (some ⟨w.heap.size, 0, none⟩)], .slice (some ⟨w.heap.size + 1, 0, none⟩) 1 1] (W1 w a)
      fun e w' => e = .returned (.int .u64 (tell1 f a)) ∧ Below w.heap.size w w' := by
  have hb := W1_below w a
  have hg : w.heap.size + 1 < (W1 w a).heap.size := by rw [W1_size]; omega
  have hle : w.heap.size ≤ (W1 w a).heap.size := by rw [W1_size]; omega
  have back : ∀ {e : Ending} {w' : World} {r : Nat}, (e = .returned (.int .u64 r) ∧ Below (W1 w a).heap.size (W1 w a) w') → r = tell1 f a → (e = .returned (.int .u64 (tell1 f a)) ∧ Below w.heap.size w w') :=
    fun h e => ⟨by rw [← e]; exact h.1, hb.trans (h.2.mono hle)⟩
  cases hn : noneB a with
  | true =>
    refine (bits_bad (W1 w a) k _ [a] (w.heap.size + 1) 1 (W1_nums w a) hg (by simp) 0 (by simp) hn).mono fun e w' h => back h ?_
    unfold tell1; rw [hn]; rfl
  | false =>
    cases hf : f a with
    | some r =>
      refine (bits_some (W1 w a) k _ r [a] (w.heap.size + 1) 1 (W1_nums w a) hg (by simp) (one_ok hn) (hc.enters _) ?_ (hc.fine r hn hf)).mono fun e w' h => back h ?_
      · intro w1 h1
        exact hc.gives w1 _ r (by rw [h1.cell (p := ⟨w.heap.size, 0, none⟩) (by rw [W1_size]; show w.heap.size < _; omega)]; exact W1_fst w a) hf
      · unfold tell1; rw [hn, hf]; rfl
    | none =>
      refine (bits_none (W1 w a) k _ [a] (w.heap.size + 1) 1 (W1_nums w a) hg (by simp) (one_ok hn) (hc.enters _) ?_).mono fun e w' h => back h ?_
      · intro w1 h1
        exact hc.nan w1 _ (by rw [h1.cell (p := ⟨w.heap.size, 0, none⟩) (by rw [W1_size]; show w.heap.size < _; omega)]; exact W1_fst w a) hf
      · unfold tell1; rw [hn, hf]; rfl

theorem flip_bits (x : Nat) (h : x < 2 ^ 64) : Op.negFloat .f64 x = mk (!sg x) (rg x) := by
  show x ^^^ 2 ^ 63 = _
  have hm : mk (sg x) (rg x) = x := mk_of x h
  have hr := rg_lt x
  generalize sg x = s at hm ⊢
  generalize rg x = r at hm hr ⊢
  subst hm
  unfold mk
  apply Nat.eq_of_testBit_eq
  intro i
  rw [Nat.testBit_xor, Nat.testBit_two_pow]
  by_cases hi : i = 63
  · subst hi
    have h0 : r.testBit 63 = false := Nat.testBit_lt_two_pow hr
    have h1 : (2 ^ 63 + r).testBit 63 = true := by rw [Nat.testBit_two_pow_add_eq, h0]; rfl
    cases s
    · show (r.testBit 63 ^^ decide (63 = 63)) = (2 ^ 63 + r).testBit 63
      rw [h0, h1]; rfl
    · show ((2 ^ 63 + r).testBit 63 ^^ decide (63 = 63)) = r.testBit 63
      rw [h0, h1]; rfl
  · by_cases hl : i < 63
    · cases s
      · simp [Nat.testBit_two_pow_add_gt hl, Ne.symm hi]
      · simp [Nat.testBit_two_pow_add_gt hl, Ne.symm hi]
    · have h1 : ∀ y, y < 2 ^ 64 → y.testBit i = false := fun y hy => Nat.testBit_lt_two_pow (Nat.lt_of_lt_of_le hy (Nat.pow_le_pow_right (by decide) (by omega)))
      cases s
      · simp [h1 r (by omega), h1 (2 ^ 63 + r) (by omega), Ne.symm hi]
      · simp [h1 r (by omega), h1 (2 ^ 63 + r) (by omega), Ne.symm hi]

theorem clo_canon (a : Nat) : Clo1 100 (fun x => some x) a where
  enters := fun cap w => callK 100 Tryz.f100 Tryz.func100 (by kernel_rfl) (by kernel_rfl) cap w
  fine := fun r ha h => by cases h; exact ha
  gives := fun w p r hp h => by
    cases h
    go_enter Tryz.func100, Tryz.ntmps100
    go_wp2
    go_ret
    exact ⟨rfl, Below.refl _ _⟩
  nan := fun w p hp h => by cases h
set_option maxRecDepth 100000 in
theorem canon_any (w : World) (a : Nat) : Calls Tryz.prog 97 #[.int .u64 a] w fun e w' => e = .returned (.int .u64 (canonB a)) ∧ Below w.heap.size w w' := by
  have hmf : ∀ (fn : Fn) (first cap : Array Value) (w : World), (Instr.makeFunc fn first cap).run Tryz.prog w = .ok (.func fn first cap) w := fun _ _ _ _ => rfl
  have hsf := store_float
  have hs := bits_one (clo_canon a ) w
  have e : tell1 (fun x => some x) a = canonB a := by
    unfold tell1 canonB
    by_cases h : isNone a
    · rw [if_pos h, show noneB a = true from decide_eq_true h]; rfl
    · rw [if_neg h, show noneB a = false from decide_eq_false h]; rfl
  rw [e] at hs
  clear e
  unfold W1 at hs
  have HS := Lib.hid hs
  clear hs
  go_enter Tryz.func97, Tryz.ntmps97
  go_wp2_with fail
  refine (number_nat a _).mono ?_
  rintro e w' ⟨rfl, rfl⟩
  go_wp2_with fail
  refine HS.out.mono ?_
  rintro e w2 ⟨rfl, hb2⟩
  have HB2 := Lib.hid hb2
  clear hb2
  go_wp2_with fail
  go_ret
  exact ⟨rfl, HB2.out⟩

end Go.Proofs.YtieoiklgoeclaaaGreat
