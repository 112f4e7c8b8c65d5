/-
  FloatInts' walk.
-/
import Derived.Test.YtlgnkgcofdjamaaTrunc
import Derived.Test.YtlgnkgcofdjamaaLawOrder
namespace Go.Proofs.Ytlgnkgcofdjamaa
open Go.RowKit

/-- What is known of two whole numbers of at most 53 bits, and of their reals. -/
theorem ints_core (n m : Int) (hn : n.natAbs ≤ 2 ^ 53) (hm : m.natAbs ≤ 2 ^ 53) : n + m ≠ 0 → addB (ofB n) (ofB m) = ofB (n + m) := ofB_add hn hm
theorem mul_small (n m : Int) (hn : n.natAbs ≤ 2 ^ 26) (hm : m.natAbs ≤ 2 ^ 26) : (n * m).natAbs ≤ 2 ^ 52 := by
  rw [Int.natAbs_mul]
  have := Nat.mul_le_mul hn hm
  omega

set_option maxRecDepth 100000 in
set_option maxHeartbeats 2000000 in
theorem ints_walk (n m : Int) (n1 : -9223372036854775808 ≤ n) (n2 : n ≤ 9223372036854775807) (m1 : -9223372036854775808 ≤ m) (m2 : m ≤ 9223372036854775807) (w : World) :
    Calls Try.prog 7 #[.int .i64 n, .int .i64 m] w fun e w' => e = .returned (.bool true) ∧ Below w.heap.size w w' := by
  have K0 : Hid (Goes w 34 #[] (.bool true)) := Lib.hid (goes_of awake_any)
  have K1 : Hid (Goes w 32 #[.int .i64 n] (.int .u64 (ofB n))) := Lib.hid (goes_same fun W => of_any n W)
  have K2 : Hid (Goes w 32 #[.int .i64 m] (.int .u64 (ofB m))) := Lib.hid (goes_same fun W => of_any m W)
  have hb0 := Below.refl w.heap.size w
  go_enter Try.func7, Try.ntmps7
  go_wp2_with fail
  refine (K0.out.step hb0).mono ?_
  rintro e w1 ⟨rfl, hb1⟩
  go_wp2_with fail
  refine (K1.out.step hb1).mono ?_
  rintro e w2 ⟨rfl, hb2⟩
  go_wp2_with fail
  refine (K2.out.step hb2).mono ?_
  rintro e w3 ⟨rfl, hb3⟩
  clear hb0 hb1 hb2
  go_upto_region 4 with fail
  go_cut [33] from 145 (fun v wr => v = .bool false ∧ Below w.heap.size w wr)
  case first =>
    rcases Int.lt_trichotomy n m with h | h | h
    · have K3 : Hid (Goes w 26 #[.int .u64 (ofB m), .int .u64 (ofB n)] (.bool false)) := Lib.hid (goes_of fun W => by rw [← ofB_not_less h]; exact less_any W (ofB m) (ofB n))
      have hne : (n == m) = false := by rw [beq_eq_false_iff_ne]; omega
      go_wp2_with fail
      refine (K3.out.step hb3).mono ?_
      rintro e w4 ⟨rfl, hb4⟩
      go_wp2_with fail
      go_meet
      case rel => exact ⟨rfl, hb4⟩
    · subst h
      have hne : (n == n) = true := by simp
      have hlt : decide (n < n) = false := by simp
      go_wp2_with fail
      go_meet
      case rel => exact ⟨rfl, hb3⟩
    · have hne : (n == m) = false := by rw [beq_eq_false_iff_ne]; omega
      have hlt : decide (n < m) = false := by rw [decide_eq_false_iff_not]; omega
      go_wp2_with fail
      go_meet
      case rel => exact ⟨rfl, hb3⟩
  case rest =>
    obtain ⟨rfl, hb4⟩ := hcut
    clear hb3
    by_cases hin : -9007199254740992 ≤ n ∧ n ≤ 9007199254740992 ∧ -9007199254740992 ≤ m ∧ m ≤ 9007199254740992
    · obtain ⟨r1, r2, r3, r4⟩ := hin
      have q1 : n.natAbs ≤ 2 ^ 53 := by omega
      have q2 : m.natAbs ≤ 2 ^ 53 := by omega
      have K4 : Hid (Goes w 8 #[.int .u64 (ofB n)] (.tuple #[.int .i64 n, .bool true])) := Lib.hid (goes_same fun W => int_ofB W n q1)
      have K5 : Hid (Goes w 26 #[.int .u64 (ofB n), .int .u64 (ofB m)] (.bool (decide (n < m)))) := Lib.hid (goes_of fun W => by rw [← ofB_less q1 q2]; exact less_any W (ofB n) (ofB m))
      have K6 : Hid (Goes w 28 #[.int .u64 (ofB n), .int .u64 (ofB m)] (.bool (decide (n = m)))) := Lib.hid (goes_of fun W => by rw [← ofB_same q1 q2]; exact same_any W (ofB n) (ofB m))
      have K7 : Hid (Goes w 16 #[.int .u64 (ofB n), .int .u64 (ofB m)] (.int .u64 (addB (ofB n) (ofB m)))) := Lib.hid (goes_of fun W => add_any W _ _)
      have K8 : Hid (Goes w 32 #[.int .i64 (n + m)] (.int .u64 (ofB (n + m)))) := Lib.hid (goes_same fun W => of_any (n + m) W)
      have H7 := Lib.hid (ofB_add q1 q2)
      have HQ1 := Lib.hid q1
      have HQ2 := Lib.hid q2
      clear q1 q2 n1 n2 m1 m2
      go_wp2_with fail
      refine (K4.out.step hb4).mono ?_
      rintro e w5 ⟨rfl, hb5⟩
      clear hb4
      go_upto_region 9 with fail
      go_cut [77] from 145 (fun v wr => v = .bool false ∧ Below w.heap.size w wr)
      case first =>
        rcases Int.lt_trichotomy n m with h | h | h
        · rw [decide_eq_true h] at K5
          rw [decide_eq_false (show ¬ n = m by omega)] at K6
          have hne : (n == m) = false := by rw [beq_eq_false_iff_ne]; omega
          go_wp2_with fail
          refine (K5.out.step hb5).mono ?_
          rintro e w6 ⟨rfl, hb6⟩
          go_wp2_with fail
          refine (K6.out.step hb6).mono ?_
          rintro e w7 ⟨rfl, hb7⟩
          go_wp2_with fail
          go_meet
          case rel => exact ⟨rfl, hb7⟩
        · rw [decide_eq_false (show ¬ n < m by omega)] at K5
          rw [decide_eq_true h] at K6
          have hne : (n == m) = true := by rw [beq_iff_eq]; omega
          have hlt : decide (n < m) = false := by rw [decide_eq_false_iff_not]; omega
          clear h
          go_wp2_with fail
          refine (K5.out.step hb5).mono ?_
          rintro e w6 ⟨rfl, hb6⟩
          go_wp2_with fail
          refine (K6.out.step hb6).mono ?_
          rintro e w7 ⟨rfl, hb7⟩
          go_wp2_with fail
          go_meet
          case rel => exact ⟨rfl, hb7⟩
        · rw [decide_eq_false (show ¬ n < m by omega)] at K5
          rw [decide_eq_false (show ¬ n = m by omega)] at K6
          have hne : (n == m) = false := by rw [beq_eq_false_iff_ne]; omega
          have hlt : decide (n < m) = false := by rw [decide_eq_false_iff_not]; omega
          go_wp2_with fail
          refine (K5.out.step hb5).mono ?_
          rintro e w6 ⟨rfl, hb6⟩
          go_wp2_with fail
          refine (K6.out.step hb6).mono ?_
          rintro e w7 ⟨rfl, hb7⟩
          go_wp2_with fail
          go_meet
          case rel => exact ⟨rfl, hb7⟩
      case rest =>
        obtain ⟨rfl, hb6⟩ := hcut
        clear hb5
        go_upto_region 12 with fail
        go_cut [98] from 145 (fun v wr => v = .bool false ∧ Below w.heap.size w wr)
        case first =>
          go_wp2_with (first
            | ((with_reducible refine (K7.out.step (by assumption)).mono ?_); rintro e w8 ⟨rfl, hb8⟩)
            | ((with_reducible refine (K8.out.step (by assumption)).mono ?_); rintro e w9 ⟨rfl, hb9⟩))
          all_goals
            go_meet
            case rel =>
              refine ⟨?_, by assumption⟩
              first
                | rfl
                | (refine congrArg Value.bool ?_
                   by_cases h0 : n + m = 0
                   · rw [h0]; simp
                   · rw [H7.out h0]; simp)
        case rest =>
          obtain ⟨rfl, hb7⟩ := hcut
          clear hb6
          by_cases hsm : -67108864 ≤ n ∧ n ≤ 67108864 ∧ -67108864 ≤ m ∧ m ≤ 67108864
          · obtain ⟨s1, s2, s3, s4⟩ := hsm
            have q1 : n.natAbs ≤ 2 ^ 26 := by omega
            have q2 : m.natAbs ≤ 2 ^ 26 := by omega
            have hp := mul_small n m q1 q2
            have hmul := ofB_mul q1 q2
            have hw1 : IntKind.i64.wrap (n * m) = n * m := by rw [IntKind.wrap_i64]; omega
            have hw2 : wrap64 (n * m) = n * m := by unfold wrap64; omega
            obtain ⟨q, hq⟩ : ∃ q, q = n * m := ⟨_, rfl⟩
            rw [← hq] at hw1 hw2 hmul
            have hw1' : IntKind.i64.wrap (n * m) = q := by rw [← hq]; exact hw1
            have hw2' : wrap64 (n * m) = q := by rw [← hq]; exact hw2
            have K9 : Hid (Goes w 20 #[.int .u64 (ofB n), .int .u64 (ofB m)] (.int .u64 (mulB (ofB n) (ofB m)))) := Lib.hid (goes_of fun W => mul_any W _ _)
            have K10 : Hid (Goes w 32 #[.int .i64 q] (.int .u64 (ofB q))) := Lib.hid (goes_same fun W => of_any q W)
            have K11 : Hid (Goes w 20 #[.int .u64 (ofB n), .int .u64 (ofB n)] (.int .u64 (mulB (ofB n) (ofB n)))) := Lib.hid (goes_of fun W => mul_any W _ _)
            have K12 : Hid (Goes w 24 #[.int .u64 (mulB (ofB n) (ofB n))] (.int .u64 (ofB n.natAbs))) := Lib.hid (goes_of fun W => by rw [← sqrt_mul n q1]; exact sqrt_any W _)
            have K13 : Hid (Goes w 32 #[.int .i64 n.natAbs] (.int .u64 (ofB n.natAbs))) := Lib.hid (goes_same fun W => of_any _ W)
            have K14 : Hid (Goes w 18 #[.int .u64 (ofB n), .int .u64 (ofB n)] (.int .u64 0)) := Lib.hid (goes_of fun W => by
              have := sub_any W (ofB n) (ofB n)
              rw [sub_self n HQ1.out] at this
              exact this)
            have H9 := Lib.hid hmul
            clear hp q1 q2 hw1 hw2 hq hmul
            go_upto_region 16 with fail
            obtain ⟨t, ht⟩ : ∃ t, (q == 0) = t := ⟨_, rfl⟩
            cases t
            · have hmul := H9.out (by rw [beq_eq_false_iff_ne] at ht; exact ht)
              rw [hmul] at K9
              clear hmul
              by_cases h : 0 ≤ n
              · have hx : -n ≤ n := by omega
                rw [show ((n.natAbs : Nat) : Int) = n by omega] at K12 K13
                go_wp2_with (first
                  | ((with_reducible refine (K9.out.step (by assumption)).mono ?_); rintro e w9 ⟨rfl, hb9⟩)
                  | ((with_reducible refine (K10.out.step (by assumption)).mono ?_); rintro e w10 ⟨rfl, hb10⟩)
                  | ((with_reducible refine (K11.out.step (by assumption)).mono ?_); rintro e w11 ⟨rfl, hb11⟩)
                  | ((with_reducible refine (K12.out.step (by assumption)).mono ?_); rintro e w12 ⟨rfl, hb12⟩)
                  | ((with_reducible refine (K13.out.step (by assumption)).mono ?_); rintro e w13 ⟨rfl, hb13⟩)
                  | ((with_reducible refine (K14.out.step (by assumption)).mono ?_); rintro e w14 ⟨rfl, hb14⟩))
                go_ret
                exact ⟨rfl, by assumption⟩
              · have hx : n < -n := by omega
                rw [show ((n.natAbs : Nat) : Int) = -n by omega] at K12 K13
                go_wp2_with (first
                  | ((with_reducible refine (K9.out.step (by assumption)).mono ?_); rintro e w9 ⟨rfl, hb9⟩)
                  | ((with_reducible refine (K10.out.step (by assumption)).mono ?_); rintro e w10 ⟨rfl, hb10⟩)
                  | ((with_reducible refine (K11.out.step (by assumption)).mono ?_); rintro e w11 ⟨rfl, hb11⟩)
                  | ((with_reducible refine (K12.out.step (by assumption)).mono ?_); rintro e w12 ⟨rfl, hb12⟩)
                  | ((with_reducible refine (K13.out.step (by assumption)).mono ?_); rintro e w13 ⟨rfl, hb13⟩)
                  | ((with_reducible refine (K14.out.step (by assumption)).mono ?_); rintro e w14 ⟨rfl, hb14⟩))
                go_ret
                exact ⟨rfl, by assumption⟩
            · skip
              by_cases h : 0 ≤ n
              · have hx : -n ≤ n := by omega
                rw [show ((n.natAbs : Nat) : Int) = n by omega] at K12 K13
                go_wp2_with (first
                  | ((with_reducible refine (K11.out.step (by assumption)).mono ?_); rintro e w11 ⟨rfl, hb11⟩)
                  | ((with_reducible refine (K12.out.step (by assumption)).mono ?_); rintro e w12 ⟨rfl, hb12⟩)
                  | ((with_reducible refine (K13.out.step (by assumption)).mono ?_); rintro e w13 ⟨rfl, hb13⟩)
                  | ((with_reducible refine (K14.out.step (by assumption)).mono ?_); rintro e w14 ⟨rfl, hb14⟩))
                go_ret
                exact ⟨rfl, by assumption⟩
              · have hx : n < -n := by omega
                rw [show ((n.natAbs : Nat) : Int) = -n by omega] at K12 K13
                go_wp2_with (first
                  | ((with_reducible refine (K11.out.step (by assumption)).mono ?_); rintro e w11 ⟨rfl, hb11⟩)
                  | ((with_reducible refine (K12.out.step (by assumption)).mono ?_); rintro e w12 ⟨rfl, hb12⟩)
                  | ((with_reducible refine (K13.out.step (by assumption)).mono ?_); rintro e w13 ⟨rfl, hb13⟩)
                  | ((with_reducible refine (K14.out.step (by assumption)).mono ?_); rintro e w14 ⟨rfl, hb14⟩))
                go_ret
                exact ⟨rfl, by assumption⟩
          · go_wp2_with fail
            all_goals
              go_ret
              exact ⟨rfl, hb7⟩
    · go_wp2_with fail
      all_goals
        go_ret
        exact ⟨rfl, hb4⟩
end Go.Proofs.Ytlgnkgcofdjamaa
