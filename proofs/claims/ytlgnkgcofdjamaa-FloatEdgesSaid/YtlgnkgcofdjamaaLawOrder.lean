/-
  FloatOrder's walk.
-/
import Derived.Test.YtlgnkgcofdjamaaAwake
namespace Go.Proofs.Ytlgnkgcofdjamaa
open Go.RowKit

theorem andNot_sign (a : Nat) (ha : a < 2 ^ 64) : bits .andNot .u64 (a : Int) 9223372036854775808 = (rg a : Int) := by
  show IntKind.u64.wrap (((((BitVec.ofInt 64 (a : Int)) &&& ~~~(BitVec.ofInt 64 9223372036854775808) : BitVec 64)).toNat : Nat) : Int) = _
  have e1 : BitVec.ofInt 64 (a : Int) = BitVec.ofNat 64 a := by
    apply BitVec.eq_of_toNat_eq
    simp
  have e2 : ~~~(BitVec.ofInt 64 9223372036854775808) = BitVec.ofNat 64 (2 ^ 63 - 1) := by decide
  rw [e1, e2, BitVec.toNat_and, BitVec.toNat_ofNat, BitVec.toNat_ofNat, Nat.mod_eq_of_lt ha, Nat.mod_eq_of_lt (by decide), Nat.and_two_pow_sub_one_eq_mod]
  rw [IntKind.wrap_u64]
  have := rg_lt a
  unfold rg at *
  omega
/-- A contract that goes on from a world to the next. -/
def Goes (w : World) (f : FuncId) (args : Array Value) (v : Value) : Prop :=
  ∀ W, Below w.heap.size w W → Calls Try.prog f args W fun e W' => e = .returned v ∧ Below w.heap.size w W'
theorem Goes.step {w : World} {f : FuncId} {args : Array Value} {v : Value} (h : Goes w f args v) {W : World} (hb : Below w.heap.size w W) : Calls Try.prog f args W fun e W' => e = .returned v ∧ Below w.heap.size w W' := h W hb
theorem goes_of {w : World} {f : FuncId} {args : Array Value} {v : Value} (h : ∀ W, Calls Try.prog f args W fun e W' => e = .returned v ∧ Below W.heap.size W W') : Goes w f args v :=
  fun W hb => (h W).mono fun _ _ k => ⟨k.1, hb.trans (k.2.mono hb.size)⟩
theorem goes_same {w : World} {f : FuncId} {args : Array Value} {v : Value} (h : ∀ W, Calls Try.prog f args W fun e W' => e = .returned v ∧ W = W') : Goes w f args v :=
  fun W hb => (h W).mono fun _ _ k => ⟨k.1, k.2 ▸ hb⟩
theorem beq_dec (a b : Nat) : (((a : Int) == (b : Int)) : Bool) = decide (a = b) := by
  rw [Bool.eq_iff_iff, beq_iff_eq, decide_eq_true_eq]; omega

set_option maxRecDepth 100000 in
set_option maxHeartbeats 1000000 in
theorem order_walk (a b c : Nat) (ha : a < 2 ^ 64) (hb : b < 2 ^ 64) (hc : c < 2 ^ 64) (w : World) :
    Calls Try.prog 5 #[.int .u64 a, .int .u64 b, .int .u64 c] w fun e w' => e = .returned (.bool true) ∧ Below w.heap.size w w' := by
  have K0 : Hid (Goes w 34 #[] (.bool true)) := Lib.hid (goes_of awake_any)
  have K1 : Hid (Goes w 30 #[.int .u64 a, .int .u64 b] (.int .i64 (orderB a b))) := Lib.hid (goes_of fun W => order_at W a b ha hb)
  have K2 : Hid (Goes w 30 #[.int .u64 b, .int .u64 c] (.int .i64 (orderB b c))) := Lib.hid (goes_of fun W => order_at W b c hb hc)
  have K3 : Hid (Goes w 30 #[.int .u64 b, .int .u64 a] (.int .i64 (orderB b a))) := Lib.hid (goes_of fun W => order_at W b a hb ha)
  have K4 : Hid (Goes w 30 #[.int .u64 a, .int .u64 c] (.int .i64 (orderB a c))) := Lib.hid (goes_of fun W => order_at W a c ha hc)
  have K5 : Hid (Goes w 12 #[.int .u64 a] (.int .u64 (canonB a))) := Lib.hid (goes_of fun W => canon_any W a)
  have K6 : Hid (Goes w 12 #[.int .u64 b] (.int .u64 (canonB b))) := Lib.hid (goes_of fun W => canon_any W b)
  have K7 : Hid (Goes w 26 #[.int .u64 a, .int .u64 b] (.bool (lessB a b))) := Lib.hid (goes_of fun W => less_any W a b)
  have K8 : Hid (Goes w 28 #[.int .u64 a, .int .u64 b] (.bool (sameB a b))) := Lib.hid (goes_of fun W => same_any W a b)
  have K9 : Hid (Goes w 16 #[.int .u64 b, .int .u64 c] (.int .u64 (addB b c))) := Lib.hid (goes_of fun W => add_any W b c)
  have K10 : Hid (Goes w 16 #[.int .u64 a, .int .u64 c] (.int .u64 (addB a c))) := Lib.hid (goes_of fun W => add_any W a c)
  have K11 : Hid (Goes w 26 #[.int .u64 (addB b c), .int .u64 (addB a c)] (.bool (lessB (addB b c) (addB a c)))) := Lib.hid (goes_of fun W => less_any W _ _)
  -- what is known of all these
  have M1 : orderB b a = - orderB a b := by have := orderB_turn a b; omega
  have M2 := orderB_range a b
  have M3 : (orderB a b = 0) ↔ (canonB a = canonB b) := (orderB_zero a b).trans (pos_canon a b ha hb)
  have M4 : orderB a b ≤ 0 → orderB b c ≤ 0 → orderB a c ≤ 0 := orderB_trans a b c
  have M5 : lessB a b = (decide (orderB a b < 0) && !(decide (canonB a = NAN) || decide (canonB b = NAN)) && !(decide (rg a = 0) && decide (rg b = 0))) := by
    rw [Bool.eq_iff_iff]
    simp only [Bool.and_eq_true, Bool.not_eq_true', Bool.or_eq_false_iff, Bool.and_eq_false_iff, decide_eq_true_eq, decide_eq_false_iff_not]
    by_cases na : isNone a
    · have h1 := nan_canon a na
      refine ⟨fun h => absurd na ((less_key a b).1 h).1, fun h => absurd h1 h.1.2.1⟩
    · by_cases nb : isNone b
      · have h1 := nan_canon b nb
        refine ⟨fun h => absurd nb ((less_key a b).1 h).2.1, fun h => absurd h1 h.1.2.2⟩
      · have h1 : canonB a ≠ NAN := fun h => na (canon_nan a h)
        have h2 : canonB b ≠ NAN := fun h => nb (canon_nan b h)
        have h3 := less_pos a b na nb
        have h4 := orderB_neg a b
        rw [h3, h4]
        constructor
        · rintro ⟨x, y⟩; exact ⟨⟨x, h1, h2⟩, by omega⟩
        · rintro ⟨⟨x, _⟩, y⟩; exact ⟨x, by omega⟩
  have M6 : sameB a b = (!(decide (canonB a = NAN) || decide (canonB b = NAN)) && (decide (orderB a b = 0) || (decide (rg a = 0) && decide (rg b = 0)))) := by
    rw [Bool.eq_iff_iff]
    simp only [Bool.and_eq_true, Bool.or_eq_true, Bool.not_eq_true', Bool.or_eq_false_iff, decide_eq_true_eq, decide_eq_false_iff_not]
    by_cases na : isNone a
    · have h1 := nan_canon a na
      refine ⟨fun h => absurd na ((same_key a b).1 h).1, fun h => absurd h1 h.1.1⟩
    · by_cases nb : isNone b
      · have h1 := nan_canon b nb
        refine ⟨fun h => absurd nb ((same_key a b).1 h).2.1, fun h => absurd h1 h.1.2⟩
      · have h1 : canonB a ≠ NAN := fun h => na (canon_nan a h)
        have h2 : canonB b ≠ NAN := fun h => nb (canon_nan b h)
        have h3 := same_pos a b na nb
        have h4 := orderB_zero a b
        rw [h3, h4]
        constructor
        · rintro h; exact ⟨⟨h1, h2⟩, h⟩
        · rintro ⟨_, h⟩; exact h
  have M7 : lessB a b = true → lessB (addB b c) (addB a c) = false := add_kept a b c
  have hza := andNot_sign a ha
  have hzb := andNot_sign b hb
  rw [M1] at K3
  clear M1
  generalize orderB a b = X at *
  generalize orderB b c = Y at *
  generalize orderB a c = T at *
  generalize canonB a = A at *
  generalize canonB b = B at *
  generalize lessB (addB b c) (addB a c) = E at *
  generalize addB b c = P at *
  generalize addB a c = Q at *
  generalize lessB a b = L at *
  generalize sameB a b = S at *
  generalize rg a = ra at *
  generalize rg b = rb at *
  obtain ⟨n, hn⟩ : ∃ n, n = (decide (A = NAN) || decide (B = NAN)) := ⟨_, rfl⟩
  obtain ⟨z, hz⟩ : ∃ z, z = (decide (ra = 0) && decide (rb = 0)) := ⟨_, rfl⟩
  rw [← hn, ← hz] at M5 M6
  have HN := Lib.hid hn
  have HZ := Lib.hid hz
  have HM3 := Lib.hid M3
  have HM4 := Lib.hid M4
  have HM5 := Lib.hid M5
  have HM6 := Lib.hid M6
  have HM7 := Lib.hid M7
  have HZA := Lib.hid hza
  have HZB := Lib.hid hzb
  obtain ⟨hX1, hX2⟩ := M2
  clear M3 M4 M5 M6 M7 hza hzb ha hb hc hn hz
  have hb0 := Below.refl w.heap.size w
  go_enter Try.func5, Try.ntmps5
  go_upto_region 4 with (first
    | ((with_reducible refine (K0.out.step (by assumption)).mono ?_); rintro e w1 ⟨rfl, hb1⟩)
    | ((with_reducible refine (K1.out.step (by assumption)).mono ?_); rintro e w2 ⟨rfl, hb2⟩)
    | ((with_reducible refine (K2.out.step (by assumption)).mono ?_); rintro e w3 ⟨rfl, hb3⟩))
  clear hb0 hb1 hb2
  have x4 : ((X == 0) != ((A : Int) == (B : Int))) = false := by
    rw [bne_eq_false_iff_eq, Bool.eq_iff_iff, beq_iff_eq, beq_iff_eq]
    have := HM3.out; omega
  have HX4 := Lib.hid x4
  clear x4
  go_cut [56] from 116 (fun v wr => v = .bool false ∧ Below w.heap.size w wr)
  case first =>
    go_wp2_with ((with_reducible refine (K3.out.step (by assumption)).mono ?_); rintro e w4 ⟨rfl, hb4⟩)
    go_wp2_with (first
      | ((with_reducible refine (K5.out.step (by assumption)).mono ?_); rintro e w5 ⟨rfl, hb5⟩)
      | ((with_reducible refine (K6.out.step (by assumption)).mono ?_); rintro e w6 ⟨rfl, hb6⟩)
      | ((with_reducible refine (K4.out.step (by assumption)).mono ?_); rintro e w7 ⟨rfl, hb7⟩))
    all_goals
      go_meet
      case rel =>
        refine ⟨?_, by assumption⟩
        first
          | rfl
          | (refine congrArg Value.bool ?_; have := HM4.out; simp only [Bool.or_eq_false_iff, decide_eq_false_iff_not]; omega)
          | (exfalso; have := HX4.out; rw [bne_eq_false_iff_eq] at this; contradiction)
  case rest =>
    obtain ⟨rfl, hb8⟩ := hcut
    clear hb3
    go_upto_region 6 with fail
    go_cut [9] from 116 (fun v wr => v = .bool n ∧ Below w.heap.size w wr)
    case first =>
      go_wp2_with (first
        | ((with_reducible refine (K5.out.step (by assumption)).mono ?_); rintro e w5 ⟨rfl, hb5⟩)
        | ((with_reducible refine (K6.out.step (by assumption)).mono ?_); rintro e w6 ⟨rfl, hb6⟩))
      all_goals
        go_meet
        case rel =>
          refine ⟨congrArg Value.bool ?_, by assumption⟩
          rw [HN.out, Bool.eq_iff_iff]
          simp only [Bool.or_eq_true, beq_iff_eq, decide_eq_true_eq, true_iff]
          have hN : NAN = 9221120237041090560 := rfl
          omega
    case rest =>
      obtain ⟨rfl, hb9⟩ := hcut
      clear hb8
      go_upto_region 7 with fail
      go_cut [10] from 116 (fun v wr => v = .bool z ∧ Below w.heap.size w wr)
      case first =>
        go_wp2_with fail
        all_goals
          go_meet
          case rel =>
            refine ⟨congrArg Value.bool ?_, by assumption⟩
            have e1 := HZA.out
            have e2 := HZB.out
            rw [HZ.out, Bool.eq_iff_iff]
            simp only [Bool.and_eq_true, beq_iff_eq, decide_eq_true_eq, Bool.false_eq_true, false_iff]
            omega
      case rest =>
        obtain ⟨rfl, hb10⟩ := hcut
        clear hb9
        have hx : X = -1 ∨ X = 0 ∨ X = 1 := by omega
        clear hX1 hX2
        cases n <;> cases z <;> rcases hx with rfl | rfl | rfl
        all_goals
          have h5 := HM5.out
          have h6 := HM6.out
          simp at h5
          simp at h6
          subst h5 h6
          try (have h7 := HM7.out rfl; subst h7)
          go_wp2_with (first
            | ((with_reducible refine (K7.out.step (by assumption)).mono ?_); rintro e w5 ⟨rfl, hb5⟩)
            | ((with_reducible refine (K8.out.step (by assumption)).mono ?_); rintro e w6 ⟨rfl, hb6⟩)
            | ((with_reducible refine (K9.out.step (by assumption)).mono ?_); rintro e w6 ⟨rfl, hb6⟩)
            | ((with_reducible refine (K10.out.step (by assumption)).mono ?_); rintro e w7 ⟨rfl, hb7⟩)
            | ((with_reducible refine (K11.out.step (by assumption)).mono ?_); rintro e w8 ⟨rfl, hb8⟩))
          go_ret
          exact ⟨rfl, by assumption⟩
end Go.Proofs.Ytlgnkgcofdjamaa
