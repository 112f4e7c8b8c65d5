/-
  float's inner calls: what bits mean; a NaN is thrown, and recovered. Ask: numbers, and what they become.
-/
import Derived.Test.YtieoiklgoeclaaaGreatProg
import Derived.Test.YtieoiklgoeclaaaGreatFOps
import Derived.WalkKit
import Derived.WalkSpells
import Derived.WalkLawsBesides
import Derived.Outline
import Derived.Below
import Derived.Defers
import Derived.Recover
import Derived.Lib.Hide
import Derived.WalkSmall
import Derived.Laws.Externs
namespace Go.Proofs.YtieoiklgoeclaaaGreat
open Go.RowKit

theorem frombits_run (n : Int) (w : World) : (callFunc 93 #[.int .u64 n]).run Tryz.prog w = .ok (.value (.float .f64 n.toNat)) w := by
  rw [run_callFunc_extern (e := Extern.MathFloatBits.float64frombits) Tryz.func93 (by kernel_rfl) (by kernel_rfl) (by kernel_rfl) (by kernel_rfl)]
  rfl
theorem bits_run (b : Nat) (w : World) : (callFunc 103 #[.float .f64 b]).run Tryz.prog w = .ok (.value (.int .u64 b)) w := by
  rw [run_callFunc_extern (e := Extern.MathFloatBits.float64bits) Tryz.func103 (by kernel_rfl) (by kernel_rfl) (by kernel_rfl) (by kernel_rfl)]
  rfl

theorem number_any (n : Int) (w : World) : Calls Tryz.prog 75 #[.int .u64 n] w fun e w' => e = .returned (.float .f64 n.toNat) ∧ w = w' := by
  have h := fun w => frombits_run n w
  go_enter Tryz.func75, Tryz.ntmps75
  go_wp2
  go_ret
  exact ⟨rfl, rfl⟩

def noneB (b : Nat) : Bool := decide (isNone b)
theorem order_self (b : Nat) : (FloatKind.f64.format.order b b != some .eq) = noneB b := by
  show (Ieee.double.order b b != some .eq) = noneB b
  unfold noneB
  by_cases h : isNone b
  · rw [order_none b b (.inl h), decide_eq_true h]; rfl
  · rw [order_some b b h h, cmp_eq rfl, decide_eq_false h]; rfl
theorem isnan_any (b : Nat) (w : World) : Calls Tryz.prog 98 #[.float .f64 b] w fun e w' => e = .returned (.bool (noneB b)) ∧ w = w' := by
  have h := order_self b
  go_enter Tryz.func98, Tryz.ntmps98
  go_wp2
  go_ret
  exact ⟨rfl, rfl⟩
theorem cmpnan_any (b : Nat) (w : World) : Calls Tryz.prog 96 #[.float .f64 b] w fun e w' => e = .returned (.bool (noneB b)) ∧ w = w' := by
  have h := order_self b
  go_enter Tryz.func96, Tryz.ntmps96
  go_wp2
  go_ret
  exact ⟨rfl, rfl⟩

/-- Numbers, one behind the other. -/
def Nums (w : World) (g : Nat) (xs : List Nat) : Prop := ∀ j, j < xs.length → w.cell? ⟨g, j, none⟩ = some (.float .f64 (xs.getD j 0))

set_option maxRecDepth 100000 in
theorem sound_ok (xs : List Nat) (g c : Nat) (w : World) (hn : Nums w g xs) (hl : xs.length ≤ 100) (h : ∀ j, j < xs.length → noneB (xs.getD j 0) = false) :
    Calls Tryz.prog 95 #[.slice (some ⟨g, 0, none⟩) xs.length c] w fun e w' => e = .returned (.tuple #[]) ∧ w = w' := by
  have HN := Lib.hid hn
  have HF := Lib.hid h
  clear hn h
  go_enter Tryz.func95, Tryz.ntmps95
  go_wp2
  go_loop [6] (fun i => ∃ k : Nat, k ≤ xs.length ∧ i = .int .i64 k) (fun i => xs.length - (intOf i).toNat)
  case atStart => exact ⟨0, Nat.zero_le _, rfl⟩
  case round =>
    obtain ⟨k, hk, rfl⟩ := hrel
    by_cases hlt : k < xs.length
    · have hc := HN.out k hlt
      have hb := HF.out k hlt
      generalize xs.getD k 0 = y at hc hb
      have hq := isnan_any y w
      rw [hb] at hq
      have HB := Lib.hid hb
      clear hb
      go_wp2_with fail
      refine hq.mono ?_
      rintro e w' ⟨rfl, rfl⟩
      clear hq
      go_wp2_with fail
      go_round
      case rel => exact ⟨k + 1, by omega, by go_num⟩
      case measure => simp [intOf]; omega
    · have he : decide (k < xs.length) = false := by simpa using hlt
      go_wp2
      go_end0
      exact ⟨rfl, rfl⟩
/-- A NaN is thrown. -/
def Thrown (e : Ending) : Prop := ∃ v, e = .panicked [{ v := .iface 84 v, recovered := false }]
set_option maxRecDepth 100000 in
theorem sound_bad (xs : List Nat) (g c : Nat) (w : World) (hn : Nums w g xs) (hl : xs.length ≤ 100) (m : Nat) (hm : m < xs.length) (h : noneB (xs.getD m 0) = true) :
    Calls Tryz.prog 95 #[.slice (some ⟨g, 0, none⟩) xs.length c] w fun e w' => Thrown e ∧ w = w' := by
  have HN := Lib.hid hn
  have HF := Lib.hid h
  clear hn h
  go_enter Tryz.func95, Tryz.ntmps95
  go_wp2
  go_loop [6] (fun i => ∃ k : Nat, k ≤ m ∧ i = .int .i64 k) (fun i => xs.length - (intOf i).toNat)
  case atStart => exact ⟨0, Nat.zero_le _, rfl⟩
  case round =>
    obtain ⟨k, hk, rfl⟩ := hrel
    have hlt : k < xs.length := by omega
    have hc := HN.out k hlt
    obtain ⟨y, hy⟩ : ∃ y, y = xs.getD k 0 := ⟨_, rfl⟩
    rw [← hy] at hc
    have HY := Lib.hid hy
    clear hy
    obtain ⟨b, hb⟩ : ∃ b, b = noneB y := ⟨_, rfl⟩
    have hq := isnan_any y w
    rw [← hb] at hq
    have HB := Lib.hid hb
    clear hb
    cases b
    · have hkm : k < m := by
        by_cases e : k = m
        · have h1 := HF.out
          rw [← e, ← HY.out, ← HB.out] at h1
          cases h1
        · omega
      go_wp2_with fail
      refine hq.mono ?_
      rintro e w' ⟨rfl, rfl⟩
      clear hq
      go_wp2_with fail
      go_round
      case rel => exact ⟨k + 1, by omega, by go_num⟩
      case measure => simp [intOf]; omega
    · go_wp2_with fail
      refine hq.mono ?_
      rintro e w' ⟨rfl, rfl⟩
      clear hq
      go_wp2_with fail
      exact ⟨rfl, ⟨_, rfl⟩, rfl⟩
end Go.Proofs.YtieoiklgoeclaaaGreat
