/-
  The product of two numbers of 64 bits; power: is the square, the cube of a number at most p times 2 to the 64, to the 96; first: the first 32 bits of what stands behind a root's point.
-/
import Derived.Test.YtccfdobogbiomaaDoorLeaf
import Derived.Lib.Hide
namespace Go.Proofs.YtccfdobogbiomaaDoor
open Go.RowKit

theorem and32 (x : Int) (h0 : 0 ≤ x) (h1 : x < 18446744073709551616) : bits .and .u64 x 4294967295 = x % 4294967296 := by
  obtain ⟨n, rfl⟩ : ∃ n : Nat, x = n := ⟨x.toNat, by omega⟩
  have := u64_and_nat n 4294967295 (by omega) (by omega)
  have e : n &&& 4294967295 = n % 4294967296 := Nat.and_two_pow_sub_one_eq_mod n 32
  rw [e] at this
  exact this.trans (by omega)

theorem mul_is (x y : Int) (hx : 0 ≤ x) (hx2 : x < 18446744073709551616) (hy : 0 ≤ y) (hy2 : y < 18446744073709551616) :
    IntKind.u64.wrap
      (IntKind.u64.wrap (IntKind.u64.wrap (x / 4294967296 * (y / 4294967296)) +
        IntKind.u64.wrap (IntKind.u64.wrap (x / 4294967296 * bits .and .u64 y 4294967295) + IntKind.u64.wrap (bits .and .u64 x 4294967295 * bits .and .u64 y 4294967295) / 4294967296) / 4294967296) +
        IntKind.u64.wrap (bits .and .u64 (IntKind.u64.wrap (IntKind.u64.wrap (x / 4294967296 * bits .and .u64 y 4294967295) + IntKind.u64.wrap (bits .and .u64 x 4294967295 * bits .and .u64 y 4294967295) / 4294967296)) 4294967295 +
          IntKind.u64.wrap (bits .and .u64 x 4294967295 * (y / 4294967296))) / 4294967296) = x * y / 18446744073709551616 := by
  rw [and32 x hx hx2, and32 y hy hy2]
  simp only [IntKind.wrap_u64]
  have e1 : x = 4294967296 * (x / 4294967296) + x % 4294967296 := by omega
  have e2 : y = 4294967296 * (y / 4294967296) + y % 4294967296 := by omega
  have e : x * y = 18446744073709551616 * (x / 4294967296 * (y / 4294967296)) + 4294967296 * (x / 4294967296 * (y % 4294967296)) + 4294967296 * (x % 4294967296 * (y / 4294967296)) + x % 4294967296 * (y % 4294967296) := by
    conv => lhs; rw [e1, e2]
    generalize x / 4294967296 = a
    generalize y / 4294967296 = b
    generalize x % 4294967296 = c
    generalize y % 4294967296 = d
    rw [Int.add_mul, Int.mul_add, Int.mul_add]
    have h1 : 4294967296 * a * (4294967296 * b) = 18446744073709551616 * (a * b) := by
      rw [Int.mul_assoc, Int.mul_left_comm a 4294967296 b, ← Int.mul_assoc]; rfl
    have h2 : 4294967296 * a * d = 4294967296 * (a * d) := Int.mul_assoc ..
    have h3 : c * (4294967296 * b) = 4294967296 * (c * b) := Int.mul_left_comm ..
    rw [h1, h2, h3]; omega
  rw [e]
  have ha : 0 ≤ x / 4294967296 ∧ x / 4294967296 ≤ 4294967295 := by omega
  have hb : 0 ≤ y / 4294967296 ∧ y / 4294967296 ≤ 4294967295 := by omega
  have hc : 0 ≤ x % 4294967296 ∧ x % 4294967296 ≤ 4294967295 := by omega
  have hd : 0 ≤ y % 4294967296 ∧ y % 4294967296 ≤ 4294967295 := by omega
  clear e e1 e2 hx hx2 hy hy2
  generalize x / 4294967296 = a at *
  generalize y / 4294967296 = b at *
  generalize x % 4294967296 = c at *
  generalize y % 4294967296 = d at *
  have bd : ∀ p q : Int, 0 ≤ p ∧ p ≤ 4294967295 → 0 ≤ q ∧ q ≤ 4294967295 → 0 ≤ p * q ∧ p * q ≤ 18446744065119617025 := fun p q hp hq =>
    ⟨Int.mul_nonneg hp.1 hq.1, Int.le_trans (Int.mul_le_mul hp.2 hq.2 hq.1 (by omega)) (by omega)⟩
  have b1 := bd a b ha hb
  have b2 := bd a d ha hd
  have b3 := bd c b hc hb
  have b4 := bd c d hc hd
  generalize a * b = p at *
  generalize a * d = q at *
  generalize c * b = r at *
  generalize c * d = s at *
  clear bd ha hb hc hd
  rw [and32 _ (by omega) (by omega)]
  omega

set_option maxRecDepth 100000 in
set_option maxHeartbeats 1000000 in
theorem mul64_any (x y : Nat) (hx : x < 18446744073709551616) (hy : y < 18446744073709551616) (w : World) : Calls Tryd.prog 45 #[.int .u64 x, .int .u64 y] w fun e w' =>
    e = .returned (.tuple #[.int .u64 ((x * y / 18446744073709551616 : Nat) : Int), .int .u64 ((x * y % 18446744073709551616 : Nat) : Int)]) ∧ w = w' := by
  go_enter Tryd.func45, Tryd.ntmps45
  go_wp2
  go_ret2
  have e1 := mul_is x y (by omega) (by omega) (by omega) (by omega)
  have e2 : IntKind.u64.wrap ((x : Int) * (y : Int)) = ((x * y % 18446744073709551616 : Nat) : Int) := by
    rw [IntKind.wrap_u64]; simp
  refine ⟨?_, rfl⟩
  rw [e1, e2]
  rfl

/-- What power answers. -/
def pw (x p : Nat) (c : Bool) : Bool :=
  match c with
  | false => decide (x * x / 18446744073709551616 < p) || (decide (x * x / 18446744073709551616 = p) && decide (x * x % 18446744073709551616 = 0))
  | true =>
    let lo := x * x % 18446744073709551616
    let hi := x * x / 18446744073709551616
    let top := (lo * x / 18446744073709551616 + hi * x % 18446744073709551616) % 18446744073709551616
    decide (top < p * 4294967296) || (decide (top = p * 4294967296) && decide (lo * x % 18446744073709551616 = 0))

theorem div_lt64 (x y : Nat) (hx : x < 18446744073709551616) (hy : y < 18446744073709551616) : x * y / 18446744073709551616 < 18446744073709551616 := by
  have : x * y < 18446744073709551616 * 18446744073709551616 := Nat.mul_lt_mul'' hx hy
  omega

set_option maxRecDepth 100000 in
set_option maxHeartbeats 1000000 in
theorem power_false (x p : Nat) (hx : x < 18446744073709551616) (hp : p < 4294967296) (w : World) :
    Calls Tryd.prog 42 #[.int .u64 x, .int .u64 p, .bool false] w fun e w' => e = .returned (.bool (pw x p false)) ∧ w = w' := by
  have main := mul64_any x x hx hx w
  unfold pw
  generalize x * x / 18446744073709551616 = hi at *
  generalize x * x % 18446744073709551616 = lo at *
  have HM := Lib.hid main
  clear main
  go_enter Tryd.func42, Tryd.ntmps42
  go_wp2_with fail
  refine HM.out.mono ?_
  rintro e w1 ⟨rfl, rfl⟩
  clear HM
  by_cases h1 : hi < p
  · have k1 : (hi : Int) < (p : Int) := by omega
    go_wp2_with fail
    go_ret
    exact ⟨by simp [h1], rfl⟩
  · by_cases h2 : hi = p
    · subst h2
      by_cases h3 : lo = 0
      · subst h3
        go_wp2_with fail
        go_ret
        exact ⟨by simp, rfl⟩
      · have k3 : ¬ (lo : Int) = 0 := by omega
        go_wp2_with fail
        go_ret
        exact ⟨by simp [h3], rfl⟩
    · have k1 : ¬ (hi : Int) < (p : Int) := by omega
      have k2 : ¬ (hi : Int) = (p : Int) := by omega
      go_wp2_with fail
      go_ret
      exact ⟨by simp [h1, h2], rfl⟩

set_option maxRecDepth 100000 in
set_option maxHeartbeats 1000000 in
theorem power_true (x p : Nat) (hx : x < 18446744073709551616) (hp : p < 4294967296) (w : World) :
    Calls Tryd.prog 42 #[.int .u64 x, .int .u64 p, .bool true] w fun e w' => e = .returned (.bool (pw x p true)) ∧ w = w' := by
  have main := mul64_any x x hx hx w
  have hhi := div_lt64 x x hx hx
  have hlo : x * x % 18446744073709551616 < 18446744073709551616 := Nat.mod_lt _ (by omega)
  unfold pw
  simp only []
  generalize x * x / 18446744073709551616 = hi at *
  generalize x * x % 18446744073709551616 = lo at *
  have main2 := mul64_any lo x hlo hx w
  have main3 := mul64_any hi x hhi hx w
  have hh := div_lt64 lo x hlo hx
  have hl : lo * x % 18446744073709551616 < 18446744073709551616 := Nat.mod_lt _ (by omega)
  have hm : hi * x % 18446744073709551616 < 18446744073709551616 := Nat.mod_lt _ (by omega)
  generalize lo * x / 18446744073709551616 = h2 at *
  generalize lo * x % 18446744073709551616 = low at *
  generalize hi * x / 18446744073709551616 = h3 at *
  generalize hi * x % 18446744073709551616 = more at *
  have ht : IntKind.u64.wrap ((h2 : Int) + (more : Int)) = (((h2 + more) % 18446744073709551616 : Nat) : Int) := by rw [IntKind.wrap_u64]; omega
  have hs : IntKind.u64.wrap ((p : Int) * 4294967296) = ((p * 4294967296 : Nat) : Int) := by rw [IntKind.wrap_u64]; omega
  have hs2 : IntKind.u64.wrap (4294967296 * (p : Int)) = ((p * 4294967296 : Nat) : Int) := by rw [IntKind.wrap_u64]; omega
  generalize (h2 + more) % 18446744073709551616 = top at *
  generalize p * 4294967296 = q at *
  have HM := Lib.hid main
  have HM2 := Lib.hid main2
  have HM3 := Lib.hid main3
  clear main main2 main3 hhi hlo hh hl hm hx hp
  go_enter Tryd.func42, Tryd.ntmps42
  go_wp2_with fail
  refine HM.out.mono ?_
  rintro e w1 ⟨rfl, rfl⟩
  go_wp2_with fail
  refine HM2.out.mono ?_
  rintro e w1 ⟨rfl, rfl⟩
  go_wp2_with fail
  refine HM3.out.mono ?_
  rintro e w1 ⟨rfl, rfl⟩
  clear HM HM2 HM3
  by_cases h1 : top < q
  · have k1 : (top : Int) < (q : Int) := by omega
    go_wp2_with fail
    go_ret
    exact ⟨by simp [h1], rfl⟩
  · by_cases h2 : top = q
    · subst h2
      by_cases h3 : low = 0
      · subst h3
        go_wp2_with fail
        go_ret
        exact ⟨by simp, rfl⟩
      · have k3 : ¬ (low : Int) = 0 := by omega
        go_wp2_with fail
        go_ret
        exact ⟨by simp [h3], rfl⟩
    · have k1 : ¬ (top : Int) < (q : Int) := by omega
      have k2 : ¬ (top : Int) = (q : Int) := by omega
      go_wp2_with fail
      go_ret
      exact ⟨by simp [h1, h2], rfl⟩
theorem power_any (x p : Nat) (c : Bool) (hx : x < 18446744073709551616) (hp : p < 4294967296) (w : World) :
    Calls Tryd.prog 42 #[.int .u64 x, .int .u64 p, .bool c] w fun e w' => e = .returned (.bool (pw x p c)) ∧ w = w' := by
  cases c
  · exact power_false x p hx hp w
  · exact power_true x p hx hp w

def rootFrom (p : Nat) (c : Bool) : Nat → Nat → Nat
  | 0, r => r
  | k + 1, r => rootFrom p c k (if pw (r + 2 ^ k) p c then r + 2 ^ k else r)
def firstOf (p : Nat) (c : Bool) : Nat := rootFrom p c 40 0 % 4294967296

set_option maxRecDepth 100000 in
set_option maxHeartbeats 1000000 in
theorem first_any (p : Nat) (c : Bool) (hp : p < 4294967296) (w : World) :
    Calls Tryd.prog 38 #[.int .u64 p, .bool c] w fun e w' => e = .returned (.int .u32 (firstOf p c)) ∧ w = w' := by
  have HP := Lib.hid hp
  clear hp
  go_enter Tryd.func38, Tryd.ntmps38
  go_wp2_with fail
  go_loop [5, 6] (fun r i => ∃ k n : Nat, k ≤ 40 ∧ i = .int .i64 ((k : Int) - 1) ∧ r = .int .u64 n ∧ n + 2 ^ k ≤ 2 ^ 40 ∧ rootFrom p c k n = rootFrom p c 40 0) (fun _ i => (intOf i + 1).toNat)
  case atStart => exact ⟨40, 0, by omega, rfl, rfl, by omega, rfl⟩
  case round =>
    obtain ⟨k, n, hk, rfl, rfl, hb, he⟩ := hrel
    have HE := Lib.hid he
    clear he
    match k, hk with
    | 0, _ =>
      go_wp2_with fail
      go_ret
      have e := HE.out
      exact ⟨by unfold firstOf; rw [← e]; simp [rootFrom], rfl⟩
    | k + 1, hk =>
      have m1 : ((k + 1 : Nat) : Int) - 1 = (k : Int) := by omega
      rw [m1]
      have m2 : (0 : Int) ≤ (k : Int) := by omega
      have m3 : IntKind.u64.wrap (k : Int) = (k : Int) := by rw [IntKind.wrap_u64]; omega
      have hb2 : n + 2 ^ k + 2 ^ k ≤ 1099511627776 := by rw [Nat.pow_succ] at hb; omega
      obtain ⟨q, hq⟩ : ∃ q, q = 2 ^ k := ⟨_, rfl⟩
      have q2 : (2 : Int) ^ k = (q : Int) := by rw [hq]; simp
      rw [← hq] at hb2
      have m4 : IntKind.u64.wrap ((2 : Int) ^ k) = (q : Int) := by rw [q2, IntKind.wrap_u64]; omega
      have m5 : IntKind.u64.wrap ((n : Int) + (q : Int)) = ((n + q : Nat) : Int) := by rw [IntKind.wrap_u64]; omega
      have main := power_any (n + q) p c (by omega) HP.out w
      have e := HE.out
      unfold rootFrom at e
      rw [← hq] at e
      have HE2 := Lib.hid e
      have HM := Lib.hid main
      have HB2 := Lib.hid hb2
      have HQ := Lib.hid hq
      have m6 : IntKind.i64.wrap ((k : Int) - 1) = (k : Int) - 1 := by rw [IntKind.wrap_i64]; omega
      clear e main hb2 hb HE q2 hq
      go_wp2_with fail
      refine HM.out.mono ?_
      rintro e w1 ⟨rfl, rfl⟩
      clear HM
      cases hpw : pw (n + q) p c
      · have HE3 : Hid (rootFrom p c k n = rootFrom p c 40 0) := Lib.hid (by have := HE2.out; rw [hpw] at this; exact this)
        clear hpw HE2
        go_wp2_with fail
        refine ⟨⟨k, n, by omega, rfl, rfl, by have := HB2.out; rw [← HQ.out]; omega, HE3.out⟩, ?_⟩
        simp [intOf]
      · have HE3 : Hid (rootFrom p c k (n + q) = rootFrom p c 40 0) := Lib.hid (by have := HE2.out; rw [hpw] at this; exact this)
        clear hpw HE2
        go_wp2_with fail
        refine ⟨⟨k, n + q, by omega, rfl, rfl, by have := HB2.out; rw [← HQ.out]; omega, HE3.out⟩, ?_⟩
        simp [intOf]
end Go.Proofs.YtccfdobogbiomaaDoor
