/-
  The document's own Add and Sub.
-/
import Derived.Test.YtlgnkgcofdjamaaRefD
import Derived.Shelf.Spec.BitsCarry
namespace Go.Proofs.Ytlgnkgcofdjamaa
open Go.RowKit

theorem add64_0 (x y : Nat) (w : World) (hx : x < 2 ^ 64) (hy : y < 2 ^ 64) : (callFunc 45 #[.int .u64 x, .int .u64 y, .int .u64 0]).run Try.prog w =
    .ok (.value (.tuple #[.int .u64 (((x + y) % 18446744073709551616 : Nat) : Int), .int .u64 (((x + y) / 18446744073709551616 : Nat) : Int)])) w := by
  rw [run_callFunc_extern (fn := Try.f45) (by kernel_rfl) (by kernel_rfl) (by kernel_rfl) (by kernel_rfl) (e := add64Entry) (by kernel_rfl)]
  have := run_add64 (P := Try.prog) (x : Int) (y : Int) 0 (by omega) (by omega) (by omega) (by omega) w
  rw [this]
  simp only [Result.andThen]
  congr 5 <;> omega
/-- What is borrowed. -/
def bor (x y : Nat) : Nat := if x < y then 1 else 0
theorem sub64_0 (x y : Nat) (w : World) (hx : x < 2 ^ 64) (hy : y < 2 ^ 64) : (callFunc 47 #[.int .u64 x, .int .u64 y, .int .u64 0]).run Try.prog w =
    .ok (.value (.tuple #[.int .u64 (((x + 18446744073709551616 - y) % 18446744073709551616 : Nat) : Int), .int .u64 ((bor x y : Nat) : Int)])) w := by
  rw [run_callFunc_extern (fn := Try.f47) (by kernel_rfl) (by kernel_rfl) (by kernel_rfl) (by kernel_rfl) (e := sub64Entry) (by kernel_rfl)]
  have := run_sub64 (P := Try.prog) x y 0 (by omega) w
  rw [Nat.add_zero, Nat.sub_zero] at this
  have e : sub64Entry #[.int .u64 x, .int .u64 y, .int .u64 0] = sub64Entry #[.int .u64 x, .int .u64 y, .int .u64 ((0 : Nat) : Int)] := rfl
  rw [e, this]
  rfl
/-- What Add makes of two numbers, the upper one's place d above the lower one's, as it is cut. -/
structure AddG (v : Nat) (sx : Bool) (mx : Nat) (sy : Bool) (d n : Nat) (E : Int) (mo : Bool) : Prop where
  d64 : d ≤ 64
  mx53 : mx < 2 ^ 53
  n53 : n < 2 ^ 53
  e1 : -1074 ≤ E
  e2 : E ≤ 971
  big : mo = true → 2 ^ 52 ≤ mx ∧ d = 64
  same : sx = sy → v = near sx (mx * 2 ^ d + n) E mo
  less : sx ≠ sy → mx * 2 ^ d < n → mo = false ∧ v = near sy (n - mx * 2 ^ d) E false
  null : sx ≠ sy → mx * 2 ^ d = n → mo = false → v = 0
  more : sx ≠ sy → n ≤ mx * 2 ^ d → (mo = true ∨ n < mx * 2 ^ d) → v = near sx (mx * 2 ^ d - n - mo.toNat) E mo
theorem near_false (s : Bool) (N : Nat) (E : Int) : near s N E false = Ieee.double.nearest s N E := by
  unfold near
  simp only [Bool.false_eq_true, if_false]
/-- Two finite reals, the first one's place no lower. -/
theorem addG_low (a b : Nat) (ha : rg a < inf) (hb : rg b < inf) (d : Nat) (hd : pl a - pl b = d) (h : d ≤ 64) : AddG (addB a b) (sg a) (mg a) (sg b) d (mg b) (pl b) false where
  d64 := h
  mx53 := mg_lt a
  n53 := mg_lt b
  e1 := pl_low b
  e2 := pl_high b hb
  big := fun h => by cases h
  same := fun hs => by rw [near_false]; exact addB_same a b ha hb d hd hs
  less := fun hs hl => ⟨rfl, by rw [near_false, addB_diff a b ha hb d hd hs, if_pos hl]⟩
  null := fun hs hl _ => by rw [addB_diff a b ha hb d hd hs, if_neg (by omega), if_pos hl]
  more := fun hs hl ho => by
    rcases ho with ho | ho
    · cases ho
    · rw [near_false, addB_diff a b ha hb d hd hs, if_neg (by omega), if_neg (by omega)]; rfl
theorem addG_high (a b : Nat) (ha : rg a < inf) (hb : rg b < inf) (e : Nat) (hd : pl a - pl b = (e + 64 : Nat)) (h : 0 < e) : AddG (addB a b) (sg a) (mg a) (sg b) 64 (mg b / 2 ^ e) (pl a - 64) (decide (mg b % 2 ^ e ≠ 0)) := by
  have hbig : 2 ^ 52 ≤ mg a := mg_big a (by have := pl_low b; omega)
  have hn : mg b / 2 ^ e ≤ mg b := Nat.div_le_self _ _
  have hnb := mg_lt b
  have hpa := pl_high a ha
  have hpb := pl_low b
  have hp : pl b = pl a - ((e + 64 : Nat) : Int) := by omega
  have hM : 2 ^ 52 * 2 ^ 64 ≤ mg a * 2 ^ (e + 64) := Nat.mul_le_mul hbig (Nat.pow_le_pow_right (by decide) (by omega))
  have h64 : 2 ^ 52 * 2 ^ 64 ≤ mg a * 2 ^ 64 := Nat.mul_le_mul_right _ hbig
  exact {
    d64 := Nat.le_refl _
    mx53 := mg_lt a
    n53 := by omega
    e1 := by omega
    e2 := by omega
    big := fun _ => ⟨hbig, rfl⟩
    same := fun hs => by rw [addB_same a b ha hb (e + 64) hd hs, hp]; exact sum_cut (sg a) (mg a) (mg b) e (pl a) hbig
    less := fun _ hl => by omega
    null := fun _ hl _ => by omega
    more := fun hs _ _ => by
      rw [addB_diff a b ha hb (e + 64) hd hs, if_neg (by omega), if_neg (by omega), hp]
      exact diff_cut (sg a) (mg a) (mg b) e (pl a) hbig hnb }
end Go.Proofs.Ytlgnkgcofdjamaa
