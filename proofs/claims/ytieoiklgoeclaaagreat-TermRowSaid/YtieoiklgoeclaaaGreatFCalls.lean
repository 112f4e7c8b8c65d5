/-
  The closures, and the calls of float whose answers are reals. No condition but words of 64 bits.
-/
import Derived.Test.YtieoiklgoeclaaaGreatFBits
namespace Go.Proofs.YtieoiklgoeclaaaGreat
open Go.RowKit

theorem below_drew (w : World) : Below w.heap.size w w.drew := ⟨rfl, rfl, rfl, Nat.le_refl _, fun _ _ => rfl⟩
theorem nan_cut (t : Nat) (x y : Nat) : noneB ((Question.nanBits .f64 x y).cut t) = true := by
  unfold noneB isNone rg inf
  show decide (9218868437227405312 < ((t % 2) * 2 ^ 63 + 0x7ff0000000000000 + 1 + (t / 2) % (2 ^ 52 - 1)) % 2 ^ 63) = true
  have h1 : t / 2 % (2 ^ 52 - 1) < 2 ^ 52 - 1 := Nat.mod_lt _ (by decide)
  generalize t / 2 % (2 ^ 52 - 1) = u at *
  rw [decide_eq_true_eq]
  omega
theorem run_float_none (op : BinOp) (t : TypeId) (x y : Nat) (w : World) (ho : op = .add ∨ op = .sub ∨ op = .mul ∨ op = .quo) (h : floatBits op .f64 x y = none) :
    ∃ r, noneB r = true ∧ (binOp op t (.float .f64 x) (.float .f64 y)).run Tryz.prog w = .ok (.float .f64 r) w.drew := by
  refine ⟨(Question.nanBits .f64 x y).cut (w.tape w.drawn (.nanBits .f64 x y)), nan_cut _ x y, ?_⟩
  unfold floatBits at h
  rcases ho with rfl | rfl | rfl | rfl <;> simp only at h <;> simp [binOp, Op.floatArith, h, choose, Sem.run, Question.forced] <;> rfl

/-- What a closure over two numbers does. -/
structure Clo2 (k : Nat) (f : Nat → Nat → Option Nat) : Prop where
  enters : ∀ (cap : Array Value) (w : World), (callFunc k cap).run Tryz.prog w = .ok (.enter k cap) w
  fine : ∀ x y r, f x y = some r → noneB r = false
  gives : ∀ (w : World) (p q x y r : Nat), w.cell? ⟨p, 0, none⟩ = some (.float .f64 x) → w.cell? ⟨q, 0, none⟩ = some (.float .f64 y) → f x y = some r →
    Calls Tryz.prog k #[.pointer (some ⟨p, 0, none⟩), .pointer (some ⟨q, 0, none⟩)] w fun e w' => e = .returned (.float .f64 r) ∧ Below w.heap.size w w'
  nan : ∀ (w : World) (p q x y : Nat), w.cell? ⟨p, 0, none⟩ = some (.float .f64 x) → w.cell? ⟨q, 0, none⟩ = some (.float .f64 y) → f x y = none →
    Calls Tryz.prog k #[.pointer (some ⟨p, 0, none⟩), .pointer (some ⟨q, 0, none⟩)] w fun e w' => ∃ r, noneB r = true ∧ e = .returned (.float .f64 r) ∧ Below w.heap.size w w'
def tell2 (f : Nat → Nat → Option Nat) (a b : Nat) : Nat := (if noneB a || noneB b then none else f a b).getD NAN

def W2 (w : World) (a b : Nat) : World := ((w.alloc (.cells #[.float .f64 a] 84)).alloc (.cells #[.float .f64 b] 84)).alloc (.cells #[.float .f64 a, .float .f64 b] 84)
theorem W2_below (w : World) (a b : Nat) : Below w.heap.size w (W2 w a b) := (((Below.refl _ _).alloc (Nat.le_refl _) _).alloc (by simp) _).alloc (by simp; omega) _
theorem W2_size (w : World) (a b : Nat) : (W2 w a b).heap.size = w.heap.size + 3 := by simp [W2]
theorem W2_nums (w : World) (a b : Nat) : Nums (W2 w a b) (w.heap.size + 2) [a, b] := by
  have := nums_two ((w.alloc (.cells #[.float .f64 a] 84)).alloc (.cells #[.float .f64 b] 84)) a b
  rw [show w.heap.size + 2 = w.heap.size + 1 + 1 from rfl]
  unfold W2
  simpa using this
theorem W2_fst (w : World) (a b : Nat) : (W2 w a b).cell? ⟨w.heap.size, 0, none⟩ = some (.float .f64 a) := by simp [W2, go_sem]
theorem W2_snd (w : World) (a b : Nat) : (W2 w a b).cell? ⟨w.heap.size + 1, 0, none⟩ = some (.float .f64 b) := by simp [W2, go_sem]
theorem two_bad {a b : Nat} (h : (noneB a || noneB b) = true) : ∃ m, m < [a, b].length ∧ noneB ([a, b].getD m 0) = true := by
  rcases Bool.or_eq_true_iff.1 h with h | h
  · exact ⟨0, by simp, h⟩
  · exact ⟨1, by simp, h⟩

theorem bits_two {k : Nat} {f : Nat → Nat → Option Nat} (hc : Clo2 k f) (w : World) (a b : Nat) :
    Calls Tryz.prog 99 #[.func (Fn.func k) #[] #[.pointer (some ⟨w.heap.size, 0, none⟩), .pointer (some ⟨w.heap.size + 1, 0, none⟩)], .slice (some ⟨w.heap.size + 2, 0, none⟩) 2 2] (W2 w a b)
      fun e w' => e = .returned (.int .u64 (tell2 f a b)) ∧ Below w.heap.size w w' := by
  have hb := W2_below w a b
  have hg : w.heap.size + 2 < (W2 w a b).heap.size := by rw [W2_size]; omega
  have hle : w.heap.size ≤ (W2 w a b).heap.size := by rw [W2_size]; omega
  have back : ∀ {e : Ending} {w' : World} {r : Nat}, (e = .returned (.int .u64 r) ∧ Below (W2 w a b).heap.size (W2 w a b) w') → r = tell2 f a b → (e = .returned (.int .u64 (tell2 f a b)) ∧ Below w.heap.size w w') :=
    fun h e => ⟨by rw [← e]; exact h.1, hb.trans (h.2.mono hle)⟩
  cases hn : (noneB a || noneB b) with
  | true =>
    obtain ⟨m, hm, hm2⟩ := two_bad hn
    refine (bits_bad (W2 w a b) k _ [a, b] (w.heap.size + 2) 2 (W2_nums w a b) hg (by simp) m hm hm2).mono fun e w' h => back h ?_
    unfold tell2; rw [hn]; rfl
  | false =>
    have ha : noneB a = false := (Bool.or_eq_false_iff.1 hn).1
    have hb2 : noneB b = false := (Bool.or_eq_false_iff.1 hn).2
    cases hf : f a b with
    | some r =>
      refine (bits_some (W2 w a b) k _ r [a, b] (w.heap.size + 2) 2 (W2_nums w a b) hg (by simp) (two_ok ha hb2) (hc.enters _) ?_ (hc.fine a b r hf)).mono fun e w' h => back h ?_
      · intro w1 h1
        exact hc.gives w1 _ _ a b r (by rw [h1.cell (p := ⟨w.heap.size, 0, none⟩) (by rw [W2_size]; show w.heap.size < _; omega)]; exact W2_fst w a b) (by rw [h1.cell (p := ⟨w.heap.size + 1, 0, none⟩) (by rw [W2_size]; show w.heap.size + 1 < _; omega)]; exact W2_snd w a b) hf
      · unfold tell2; rw [hn, hf]; rfl
    | none =>
      refine (bits_none (W2 w a b) k _ [a, b] (w.heap.size + 2) 2 (W2_nums w a b) hg (by simp) (two_ok ha hb2) (hc.enters _) ?_).mono fun e w' h => back h ?_
      · intro w1 h1
        exact hc.nan w1 _ _ a b (by rw [h1.cell (p := ⟨w.heap.size, 0, none⟩) (by rw [W2_size]; show w.heap.size < _; omega)]; exact W2_fst w a b) (by rw [h1.cell (p := ⟨w.heap.size + 1, 0, none⟩) (by rw [W2_size]; show w.heap.size + 1 < _; omega)]; exact W2_snd w a b) hf
      · unfold tell2; rw [hn, hf]; rfl

theorem number_nat (n : Nat) (w : World) : Calls Tryz.prog 75 #[.int .u64 n] w fun e w' => e = .returned (.float .f64 n) ∧ w = w' := by
  have := number_any n w
  simpa using this

theorem store_float (w : World) (a : Addr) (b : Nat) (m : Mode) : (store a (.float .f64 b) m).run Tryz.prog w = stored Tryz.prog w a (.float .f64 b) m := run_store Tryz.prog w a _ m rfl

/-! ## Sums, differences, products, quotients -/

end Go.Proofs.YtieoiklgoeclaaaGreat
