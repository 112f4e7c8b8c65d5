/-
  FloatSums' walk.
-/
import Derived.Test.YtlgnkgcofdjamaaLawOrder
namespace Go.Proofs.Ytlgnkgcofdjamaa
open Go.RowKit

theorem word_getD {o : Option Nat} (h : ∀ r, o = some r → r < 2 ^ 64) : o.getD NAN < 2 ^ 64 := by
  cases o with
  | none => decide
  | some r => exact h r rfl
theorem add_word (a b : Nat) : addB a b < 2 ^ 64 := word_getD fun _ h => Ieee.Format.add_lt _ h
theorem mul_word (a b : Nat) : mulB a b < 2 ^ 64 := word_getD fun _ h => Ieee.Format.mul_lt _ h
theorem div_word (a b : Nat) : divB a b < 2 ^ 64 := word_getD fun _ h => Ieee.Format.div_lt _ h
theorem mk_word (s : Bool) (r : Nat) (h : r ≤ inf) : mk s r < 2 ^ 64 := by
  unfold mk inf at *
  split <;> omega
theorem neg_word (a : Nat) : negB a < 2 ^ 64 := by
  unfold negB
  by_cases h : isNone a
  · rw [if_pos h]; decide
  · rw [if_neg h]; exact mk_word _ _ (by unfold isNone at h; omega)

/-- Words of 64 bits in a row of their own. -/
def Words (W : World) (g : Nat) (xs : List Nat) : Prop := g < W.heap.size ∧ ∀ j, j < xs.length → W.cell? ⟨g, j, none⟩ = some (.int .u64 (xs.getD j 0))
theorem Words.below {W W' : World} {g : Nat} {xs : List Nat} (h : Words W g xs) (hb : Below W.heap.size W W') : Words W' g xs :=
  ⟨Nat.lt_of_lt_of_le h.1 hb.size, fun j hj => (hb.cell (p := ⟨g, j, none⟩) h.1).trans (h.2 j hj)⟩
theorem words_seven (W : World) (a b c d e f g : Nat) : Words (W.alloc (.cells #[.int .u64 a, .int .u64 b, .int .u64 c, .int .u64 d, .int .u64 e, .int .u64 f, .int .u64 g] 22)) W.heap.size [a, b, c, d, e, f, g] := by
  refine ⟨by simp, fun j hj => ?_⟩
  have : j = 0 ∨ j = 1 ∨ j = 2 ∨ j = 3 ∨ j = 4 ∨ j = 5 ∨ j = 6 := by simp at hj; omega
  rcases this with rfl | rfl | rfl | rfl | rfl | rfl | rfl <;> simp [go_sem]
theorem right_rt (W : World) (x : Nat) (h : Rt x) : Calls Try.prog 10 #[.int .u64 x] W fun e W' => e = .returned (.bool true) ∧ Below W.heap.size W W' := by
  have := right_any W x
  rwa [decide_eq_true (show canonB x = x from h)] at this
theorem canon_rt (W : World) (x : Nat) (h : Rt x) : Calls Try.prog 12 #[.int .u64 x] W fun e W' => e = .returned (.int .u64 x) ∧ Below W.heap.size W W' := by
  have := canon_any W x
  rwa [show canonB x = x from h] at this

set_option maxRecDepth 100000 in
set_option maxHeartbeats 2000000 in
theorem sums_walk (a b : Nat) (ha : a < 2 ^ 64) (hb : b < 2 ^ 64) (w : World) :
    Calls Try.prog 6 #[.int .u64 a, .int .u64 b] w fun e w' => e = .returned (.bool true) ∧ Below w.heap.size w w' := by
  have K0 : Hid (Goes w 34 #[] (.bool true)) := Lib.hid (goes_of awake_any)
  have K1 : Hid (Goes w 16 #[.int .u64 a, .int .u64 b] (.int .u64 (addB a b))) := Lib.hid (goes_of fun W => add_any W a b)
  have K2 : Hid (Goes w 20 #[.int .u64 a, .int .u64 b] (.int .u64 (mulB a b))) := Lib.hid (goes_of fun W => mul_any W a b)
  have K3 : Hid (Goes w 22 #[.int .u64 a, .int .u64 b] (.int .u64 (divB a b))) := Lib.hid (goes_of fun W => div_any W a b)
  have K4 : Hid (Goes w 24 #[.int .u64 a] (.int .u64 (sqrtB a))) := Lib.hid (goes_of fun W => sqrt_any W a)
  have K5 : Hid (Goes w 18 #[.int .u64 a, .int .u64 b] (.int .u64 (subB a b))) := Lib.hid (goes_of fun W => sub_any W a b)
  have K6 : Hid (Goes w 14 #[.int .u64 a] (.int .u64 (negB a))) := Lib.hid (goes_of fun W => neg_any W a ha)
  have K7 : Hid (Goes w 12 #[.int .u64 a] (.int .u64 (canonB a))) := Lib.hid (goes_of fun W => canon_any W a)
  have K8 : Hid (Goes w 16 #[.int .u64 b, .int .u64 a] (.int .u64 (addB a b))) := Lib.hid (goes_of fun W => by rw [add_comm a b]; exact add_any W b a)
  have K9 : Hid (Goes w 20 #[.int .u64 b, .int .u64 a] (.int .u64 (mulB a b))) := Lib.hid (goes_of fun W => by rw [mul_comm a b]; exact mul_any W b a)
  have K10 : Hid (Goes w 14 #[.int .u64 b] (.int .u64 (negB b))) := Lib.hid (goes_of fun W => neg_any W b hb)
  have K11 : Hid (Goes w 16 #[.int .u64 a, .int .u64 (negB b)] (.int .u64 (subB a b))) := Lib.hid (goes_of fun W => by rw [sub_add a b]; exact add_any W a (negB b))
  have K12 : Hid (Goes w 14 #[.int .u64 (negB a)] (.int .u64 (canonB a))) := Lib.hid (goes_of fun W => by rw [← neg_neg a ha]; exact neg_any W (negB a) (neg_word a))
  have K13 : Hid (Goes w 20 #[.int .u64 (negB a), .int .u64 b] (.int .u64 (negB (mulB a b)))) := Lib.hid (goes_of fun W => by rw [← mul_neg a b]; exact mul_any W (negB a) b)
  have K14 : Hid (Goes w 14 #[.int .u64 (mulB a b)] (.int .u64 (negB (mulB a b)))) := Lib.hid (goes_of fun W => neg_any W _ (mul_word a b))
  have K15 : Hid (Goes w 22 #[.int .u64 a, .int .u64 (negB b)] (.int .u64 (negB (divB a b)))) := Lib.hid (goes_of fun W => by rw [← div_neg a b]; exact div_any W a (negB b))
  have K16 : Hid (Goes w 14 #[.int .u64 (divB a b)] (.int .u64 (negB (divB a b)))) := Lib.hid (goes_of fun W => neg_any W _ (div_word a b))
  have K17 : Hid (Goes w 16 #[.int .u64 a, .int .u64 0] (.int .u64 (if a = 2 ^ 63 then 0 else canonB a : Nat))) := Lib.hid (goes_of fun W => by rw [← add_zero a ha]; exact add_any W a 0)
  have K18 : Hid (Goes w 20 #[.int .u64 a, .int .u64 4607182418800017408] (.int .u64 (canonB a))) := Lib.hid (goes_of fun W => by rw [← mul_one a ha]; exact mul_any W a ONE)
  have K19 : Hid (Goes w 22 #[.int .u64 a, .int .u64 4607182418800017408] (.int .u64 (canonB a))) := Lib.hid (goes_of fun W => by rw [← div_one a ha]; exact div_any W a ONE)
  have K20 : Hid (Goes w 16 #[.int .u64 a, .int .u64 9223372036854775808] (.int .u64 (canonB a))) := Lib.hid (goes_of fun W => by rw [← add_less a ha]; exact add_any W a 9223372036854775808)
  have K21 : Hid (Goes w 26 #[.int .u64 (sqrtB a), .int .u64 0] (.bool false)) := Lib.hid (goes_of fun W => by rw [← sqrt_not_less a ha]; exact less_any W (sqrtB a) 0)
  have K22 : Hid (Goes w 26 #[.int .u64 a, .int .u64 0] (.bool (decide (sqrtB a = NAN) && !decide (canonB a = NAN)))) := Lib.hid (goes_of fun W => by rw [← sqrt_sign a ha]; exact less_any W a 0)
  have R : ∀ j, j < 7 → Rt ([addB a b, mulB a b, divB a b, sqrtB a, subB a b, negB a, canonB a].getD j 0) := by
    intro j hj
    have : j = 0 ∨ j = 1 ∨ j = 2 ∨ j = 3 ∨ j = 4 ∨ j = 5 ∨ j = 6 := by omega
    rcases this with rfl | rfl | rfl | rfl | rfl | rfl | rfl
    · exact rt_add a b
    · exact rt_mul a b
    · exact rt_div a b
    · exact rt_sqrt a
    · exact rt_sub a b
    · exact rt_neg a
    · exact rt_canon a
  generalize negB (mulB a b) = np at *
  generalize negB (divB a b) = nq at *
  generalize addB a b = s at *
  generalize mulB a b = p at *
  generalize divB a b = q at *
  generalize sqrtB a = r at *
  generalize subB a b = d at *
  generalize negB a = na at *
  generalize negB b = nb at *
  generalize canonB a = own at *
  have HR := Lib.hid R
  clear R ha hb
  have hb0 := Below.refl w.heap.size w
  go_enter Try.func6, Try.ntmps6
  go_upto_region 5 with (first
    | ((with_reducible refine (K0.out.step (by assumption)).mono ?_); rintro e w1 ⟨rfl, hb1⟩)
    | ((with_reducible refine (K1.out.step (by assumption)).mono ?_); rintro e w2 ⟨rfl, hb2⟩)
    | ((with_reducible refine (K2.out.step (by assumption)).mono ?_); rintro e w2 ⟨rfl, hb2⟩)
    | ((with_reducible refine (K3.out.step (by assumption)).mono ?_); rintro e w2 ⟨rfl, hb2⟩)
    | ((with_reducible refine (K4.out.step (by assumption)).mono ?_); rintro e w2 ⟨rfl, hb2⟩)
    | ((with_reducible refine (K5.out.step (by assumption)).mono ?_); rintro e w2 ⟨rfl, hb2⟩)
    | ((with_reducible refine (K6.out.step (by assumption)).mono ?_); rintro e w2 ⟨rfl, hb2⟩)
    | ((with_reducible refine (K7.out.step (by assumption)).mono ?_); rintro e w3 ⟨rfl, hb3⟩))
  clear hb0 hb1
  have hrow := words_seven w3 s p q r d na own
  have hbw : Below w.heap.size w (w3.alloc (.cells #[.int .u64 s, .int .u64 p, .int .u64 q, .int .u64 r, .int .u64 d, .int .u64 na, .int .u64 own] 22)) := hb3.alloc hb3.size _
  obtain ⟨g, hg⟩ : ∃ g, g = w3.heap.size := ⟨_, rfl⟩
  rw [← hg] at hrow
  rw [← hg]
  generalize w3.alloc (.cells #[.int .u64 s, .int .u64 p, .int .u64 q, .int .u64 r, .int .u64 d, .int .u64 na, .int .u64 own] 22) = W0 at hrow hbw ⊢
  obtain ⟨xs, hxs⟩ : ∃ xs, xs = [s, p, q, r, d, na, own] := ⟨_, rfl⟩
  have hlen : xs.length = 7 := by rw [hxs]; rfl
  rw [← hxs] at HR hrow
  have HROW := Lib.hid hrow
  have HLEN := Lib.hid hlen
  clear hrow hlen hxs hg hb3
  go_wp2_with fail
  go_loopw [10] (fun i wr => ∃ k : Nat, k ≤ 7 ∧ i = .int .i64 k ∧ Words wr g xs ∧ Below w.heap.size w wr) (fun i _ => 7 - (intOf i).toNat)
  case atStart => exact ⟨0, by omega, rfl, HROW.out, hbw⟩
  case round =>
    obtain ⟨k, hk, rfl, hrow, hbk⟩ := hrel
    clear hbw
    by_cases hlt : k < 7
    · have hc := hrow.2 k (by have := HLEN.out; omega)
      have hr := HR.out k hlt
      obtain ⟨x, hx⟩ : ∃ x, x = xs.getD k 0 := ⟨_, rfl⟩
      rw [← hx] at hc hr
      have L1 : Hid (Goes wr 10 #[.int .u64 x] (.bool true)) := Lib.hid (goes_of fun W => right_rt W x hr)
      have L2 : Hid (Goes wr 12 #[.int .u64 x] (.int .u64 x)) := Lib.hid (goes_of fun W => canon_rt W x hr)
      have HROW2 := Lib.hid hrow
      clear hrow hr hx
      have i2 : (k : Int) < 7 := by omega
      have i1 : (0 : Int) ≤ (k : Int) ∧ (k : Int) < 7 := by omega
      go_upto_region 8 with fail
      go_cut [61] from 150 (fun v w2 => v = .bool false ∧ Below wr.heap.size wr w2)
      case first =>
        have hself : Below wr.heap.size wr wr.drew := (Below.refl _ _).drew
        go_region_held3 (fun w' => w'.cell? ⟨g, k, none⟩ = some (.int .u64 x)) (go_keep) (first
          | ((with_reducible refine (L1.out.step (by assumption)).mono ?_); rintro e w4 ⟨rfl, hb4⟩; have hc4 := (hb4.cell (p := ⟨g, k, none⟩) HROW2.out.1).trans hc)
          | ((with_reducible refine (L2.out.step (by assumption)).mono ?_); rintro e w5 ⟨rfl, hb5⟩; have hc5 := (hb5.cell (p := ⟨g, k, none⟩) HROW2.out.1).trans hc))
        go_wp2_with fail
        go_meet
        case rel => exact ⟨rfl, hb5⟩
      case rest =>
        obtain ⟨rfl, hb6⟩ := hcut
        have hrow6 := HROW2.out.below hb6
        have HROW6 := Lib.hid hrow6
        have hbw6 := hbk.trans (hb6.mono hbk.size)
        clear hrow6 hc hb6
        go_wp2_with fail
        go_roundw
        case rel => exact ⟨k + 1, by omega, by go_num, HROW6.out, hbw6⟩
        case measure => simp [intOf]; omega
    · obtain rfl : k = 7 := by omega
      clear hrow HROW HLEN HR
      rw [show ((7 : Nat) : Int) = 7 from rfl]
      go_wp2_with fail
      refine (K7.out.step hbk).mono ?_
      rintro e w7 ⟨rfl, hb7⟩
      clear hbk
      obtain ⟨t3, e3⟩ : ∃ t, decide (a = 9223372036854775808) = t := ⟨_, rfl⟩
      have f3 : ((a : Int) == 9223372036854775808) = t3 := by rw [← e3]; exact beq_dec a 9223372036854775808
      obtain ⟨more, hmore⟩ : ∃ more, more = if a = 2 ^ 63 then 0 else own := ⟨_, rfl⟩
      rw [← hmore] at K17
      have hm : (t3 = true ∧ more = 0) ∨ (t3 = false ∧ more = own) := by
        by_cases e : a = 2 ^ 63
        · exact .inl ⟨by rw [← e3]; exact decide_eq_true e, by rw [hmore, if_pos e]⟩
        · exact .inr ⟨by rw [← e3]; exact decide_eq_false e, by rw [hmore, if_neg e]⟩
      clear e3 hmore
      rcases hm with ⟨rfl, rfl⟩ | ⟨rfl, rfl⟩
      · have K17 : Hid (Goes w 16 #[.int .u64 a, .int .u64 0] (.int .u64 0)) := K17
        go_upto_region 14 with fail
        go_cut [95] from 150 (fun v wr => v = .bool false ∧ Below w.heap.size w wr)
        case first =>
          go_wp2_with fail
          refine (K8.out.step hb7).mono ?_
          rintro e v0 ⟨rfl, hc0⟩
          clear hb7
          go_wp2_with fail
          refine (K9.out.step hc0).mono ?_
          rintro e v1 ⟨rfl, hc1⟩
          clear hc0
          go_wp2_with fail
          refine (K5.out.step hc1).mono ?_
          rintro e v2 ⟨rfl, hc2⟩
          clear hc1
          go_wp2_with fail
          refine (K10.out.step hc2).mono ?_
          rintro e v3 ⟨rfl, hc3⟩
          clear hc2
          go_wp2_with fail
          refine (K11.out.step hc3).mono ?_
          rintro e v4 ⟨rfl, hc4⟩
          clear hc3
          go_wp2_with fail
          refine (K6.out.step hc4).mono ?_
          rintro e v5 ⟨rfl, hc5⟩
          clear hc4
          go_wp2_with fail
          refine (K12.out.step hc5).mono ?_
          rintro e v6 ⟨rfl, hc6⟩
          clear hc5
          go_wp2_with fail
          go_meet
          case rel => exact ⟨rfl, hc6⟩
        case rest =>
          obtain ⟨rfl, hb11⟩ := hcut
          clear hb7
          go_upto_region 16 with fail
          go_cut [135] from 150 (fun v wr => v = .bool false ∧ Below w.heap.size w wr)
          case first =>
            go_wp2_with fail
            refine (K6.out.step hb11).mono ?_
            rintro e v0 ⟨rfl, hc0⟩
            clear hb11
            go_wp2_with fail
            refine (K13.out.step hc0).mono ?_
            rintro e v1 ⟨rfl, hc1⟩
            clear hc0
            go_wp2_with fail
            refine (K14.out.step hc1).mono ?_
            rintro e v2 ⟨rfl, hc2⟩
            clear hc1
            go_wp2_with fail
            refine (K10.out.step hc2).mono ?_
            rintro e v3 ⟨rfl, hc3⟩
            clear hc2
            go_wp2_with fail
            refine (K15.out.step hc3).mono ?_
            rintro e v4 ⟨rfl, hc4⟩
            clear hc3
            go_wp2_with fail
            refine (K16.out.step hc4).mono ?_
            rintro e v5 ⟨rfl, hc5⟩
            clear hc4
            go_wp2_with fail
            refine (K17.out.step hc5).mono ?_
            rintro e v6 ⟨rfl, hc6⟩
            clear hc5
            go_wp2_with fail
            refine (K18.out.step hc6).mono ?_
            rintro e v7 ⟨rfl, hc7⟩
            clear hc6
            go_wp2_with fail
            refine (K19.out.step hc7).mono ?_
            rintro e v8 ⟨rfl, hc8⟩
            clear hc7
            go_wp2_with fail
            refine (K20.out.step hc8).mono ?_
            rintro e v9 ⟨rfl, hc9⟩
            clear hc8
            go_wp2_with fail
            go_meet
            case rel => exact ⟨rfl, hc9⟩
          case rest =>
            obtain ⟨rfl, hb12⟩ := hcut
            clear hb11
            obtain ⟨t1, e1⟩ : ∃ t, decide (r = NAN) = t := ⟨_, rfl⟩
            obtain ⟨t2, e2⟩ : ∃ t, decide (own = NAN) = t := ⟨_, rfl⟩
            have f1 : ((r : Int) == 9221120237041090560) = t1 := by rw [← e1]; exact beq_dec r NAN
            have f2 : ((own : Int) != 9221120237041090560) = !t2 := by rw [← e2, bne]; exact congrArg _ (beq_dec own NAN)
            rw [e1, e2] at K22
            clear e1 e2
            cases t1 <;> cases t2
            all_goals
              go_wp2_with fail
              refine (K21.out.step hb12).mono ?_
              rintro e v0 ⟨rfl, hc0⟩
              clear hb12
              go_wp2_with fail
              refine (K22.out.step hc0).mono ?_
              rintro e v1 ⟨rfl, hc1⟩
              clear hc0
              go_wp2_with fail
              go_ret
              exact ⟨rfl, hc1⟩
      · skip
        go_upto_region 14 with fail
        go_cut [95] from 150 (fun v wr => v = .bool false ∧ Below w.heap.size w wr)
        case first =>
          go_wp2_with fail
          refine (K8.out.step hb7).mono ?_
          rintro e v0 ⟨rfl, hc0⟩
          clear hb7
          go_wp2_with fail
          refine (K9.out.step hc0).mono ?_
          rintro e v1 ⟨rfl, hc1⟩
          clear hc0
          go_wp2_with fail
          refine (K5.out.step hc1).mono ?_
          rintro e v2 ⟨rfl, hc2⟩
          clear hc1
          go_wp2_with fail
          refine (K10.out.step hc2).mono ?_
          rintro e v3 ⟨rfl, hc3⟩
          clear hc2
          go_wp2_with fail
          refine (K11.out.step hc3).mono ?_
          rintro e v4 ⟨rfl, hc4⟩
          clear hc3
          go_wp2_with fail
          refine (K6.out.step hc4).mono ?_
          rintro e v5 ⟨rfl, hc5⟩
          clear hc4
          go_wp2_with fail
          refine (K12.out.step hc5).mono ?_
          rintro e v6 ⟨rfl, hc6⟩
          clear hc5
          go_wp2_with fail
          go_meet
          case rel => exact ⟨rfl, hc6⟩
        case rest =>
          obtain ⟨rfl, hb11⟩ := hcut
          clear hb7
          go_upto_region 16 with fail
          go_cut [135] from 150 (fun v wr => v = .bool false ∧ Below w.heap.size w wr)
          case first =>
            go_wp2_with fail
            refine (K6.out.step hb11).mono ?_
            rintro e v0 ⟨rfl, hc0⟩
            clear hb11
            go_wp2_with fail
            refine (K13.out.step hc0).mono ?_
            rintro e v1 ⟨rfl, hc1⟩
            clear hc0
            go_wp2_with fail
            refine (K14.out.step hc1).mono ?_
            rintro e v2 ⟨rfl, hc2⟩
            clear hc1
            go_wp2_with fail
            refine (K10.out.step hc2).mono ?_
            rintro e v3 ⟨rfl, hc3⟩
            clear hc2
            go_wp2_with fail
            refine (K15.out.step hc3).mono ?_
            rintro e v4 ⟨rfl, hc4⟩
            clear hc3
            go_wp2_with fail
            refine (K16.out.step hc4).mono ?_
            rintro e v5 ⟨rfl, hc5⟩
            clear hc4
            go_wp2_with fail
            refine (K17.out.step hc5).mono ?_
            rintro e v6 ⟨rfl, hc6⟩
            clear hc5
            go_wp2_with fail
            refine (K18.out.step hc6).mono ?_
            rintro e v7 ⟨rfl, hc7⟩
            clear hc6
            go_wp2_with fail
            refine (K19.out.step hc7).mono ?_
            rintro e v8 ⟨rfl, hc8⟩
            clear hc7
            go_wp2_with fail
            refine (K20.out.step hc8).mono ?_
            rintro e v9 ⟨rfl, hc9⟩
            clear hc8
            go_wp2_with fail
            go_meet
            case rel => exact ⟨rfl, hc9⟩
          case rest =>
            obtain ⟨rfl, hb12⟩ := hcut
            clear hb11
            obtain ⟨t1, e1⟩ : ∃ t, decide (r = NAN) = t := ⟨_, rfl⟩
            obtain ⟨t2, e2⟩ : ∃ t, decide (more = NAN) = t := ⟨_, rfl⟩
            have f1 : ((r : Int) == 9221120237041090560) = t1 := by rw [← e1]; exact beq_dec r NAN
            have f2 : ((more : Int) != 9221120237041090560) = !t2 := by rw [← e2, bne]; exact congrArg _ (beq_dec more NAN)
            rw [e1, e2] at K22
            clear e1 e2
            cases t1 <;> cases t2
            all_goals
              go_wp2_with fail
              refine (K21.out.step hb12).mono ?_
              rintro e v0 ⟨rfl, hc0⟩
              clear hb12
              go_wp2_with fail
              refine (K22.out.step hc0).mono ?_
              rintro e v1 ⟨rfl, hc1⟩
              clear hc0
              go_wp2_with fail
              go_ret
              exact ⟨rfl, hc1⟩
end Go.Proofs.Ytlgnkgcofdjamaa
