/-
  The document's own Int.
-/
import Derived.Test.YtlgnkgcofdjamaaRefD
import Derived.Test.YtlgnkgcofdjamaaIntM
namespace Go.Proofs.Ytlgnkgcofdjamaa
open Go.RowKit

theorem tr_low (a : Nat) (h : pl a ≤ 0) (e : Nat) (he : -(pl a) = e) : tr a = mg a / 2 ^ e := by
  unfold tr
  have e1 : (pl a).toNat = 0 := by omega
  have e2 : (-(pl a)).toNat = e := by omega
  rw [e1, e2, Nat.pow_zero, Nat.mul_one]
theorem tr_mid (a : Nat) (e : Nat) (he : pl a = e) : tr a = mg a * 2 ^ e := by
  unfold tr
  have e1 : (pl a).toNat = e := by omega
  have e2 : (-(pl a)).toNat = 0 := by omega
  rw [e1, e2, Nat.pow_zero, Nat.div_one]
theorem tr_high (a : Nat) (h : 64 < pl a) : 9223372036854775808 < tr a := by
  obtain ⟨e, he⟩ : ∃ e : Nat, pl a = e := ⟨(pl a).toNat, by omega⟩
  rw [tr_mid a e he]
  have hm := mg_big a (by omega)
  have hp : 2 ^ 65 ≤ 2 ^ e := Nat.pow_le_pow_right (by decide) (by omega)
  have := Nat.mul_le_mul hm hp
  omega
theorem wrap_top : wrap64 (-wrap64 9223372036854775808) = -9223372036854775808 := by unfold wrap64; rfl
/-- What Int tells of a whole part. -/
theorem int_out (a : Nat) (fa : rg a < inf) : (fitI a = false ∧ intR a = 0 ∧ (9223372036854775808 < tr a ∨ tr a = 9223372036854775808 ∧ sg a = false)) ∨ (fitI a = true ∧ sg a = true ∧ intR a = -(tr a : Int) ∧ tr a ≤ 9223372036854775808) ∨ (fitI a = true ∧ sg a = false ∧ intR a = (tr a : Int) ∧ tr a < 9223372036854775808) := by
  unfold intR fitI intV
  rw [decide_eq_true fa, Bool.true_and]
  cases hs : sg a with
  | true =>
    simp only [if_true]
    by_cases h : tr a ≤ 9223372036854775808
    · exact .inr (.inl ⟨by simp [h], by simp, by simp [h], h⟩)
    · exact .inl ⟨by simp [h], by simp [h], .inl (by omega)⟩
  | false =>
    simp only [Bool.false_eq_true, if_false]
    by_cases h : tr a < 9223372036854775808
    · exact .inr (.inr ⟨by simp [h], by simp, by simp [h], h⟩)
    · refine .inl ⟨by simp [h], by simp [h], ?_⟩
      by_cases e : tr a = 9223372036854775808
      · exact .inr ⟨e, by simp⟩
      · exact .inl (by omega)
set_option maxRecDepth 100000 in
set_option maxHeartbeats 4000000 in
theorem rint_any (w : World) (a : Nat) (ha : a < 2 ^ 64) : Calls Try.prog 9 #[.int .u64 a] w fun e w' => e = .returned (.tuple #[.int .i64 (intR a), .bool (fitI a)]) ∧ Below w.heap.size w w' := by
  have hra := andNot_sign a ha
  by_cases fa : rg a < inf
  · have HO := Lib.hid (fun W => open_any W a ha fa)
    obtain ⟨p1, p2, p3⟩ := open_bounds a fa
    have i0 : ¬ (9218868437227405312 : Int) ≤ (rg a : Int) := by unfold inf at fa; omega
    have hout := int_out a fa
    by_cases h0 : pl a ≤ 0
    · obtain ⟨e, he⟩ : ∃ e : Nat, -(pl a) = e := ⟨(-(pl a)).toNat, by omega⟩
      have ht := tr_low a h0 e he
      have hr := fun W => rright_any W 0 (mg a) e (by decide) (by omega)
      have hW : W128 0 (mg a) = mg a := by unfold W128; omega
      have hle : mg a / 2 ^ e ≤ mg a := Nat.div_le_self _ _
      simp only [hW, ← ht, Int.natCast_zero] at hr
      rw [← ht] at hle
      simp only [Nat.div_eq_of_lt (show tr a < 18446744073709551616 by omega), Nat.mod_eq_of_lt (show tr a < 18446744073709551616 by omega), Int.natCast_zero] at hr
      generalize decide (mg a % 2 ^ e ≠ 0) = mo at hr
      have hbe : e ≤ 1074 := by omega
      clear ht hW fa
      generalize fitI a = fi at *
      generalize intR a = v at *
      generalize tr a = T at *
      generalize sg a = s at *
      generalize mg a = m at *
      simp only [← he] at hr
      have HP := Lib.hid (show pl a ≤ 0 ∧ -1074 ≤ pl a from ⟨h0, p1⟩)
      clear hbe
      generalize pl a = pp at *
      generalize rg a = r at *
      have HR := Lib.hid hr
      have T1 : (T : Int) < 9223372036854775808 := by omega
      have T2 : ((T : Int) == 9223372036854775808) = false := by rw [beq_eq_false_iff_ne]; omega
      have T3 : decide ((9223372036854775808 : Int) < (T : Int)) = false := by simp; omega
      clear hr p1 p2 h0 he
      have HT := Lib.hid (And.intro T1 (And.intro T2 T3))
      clear T2 T3 hle
      rcases hout with ⟨rfl, rfl, h⟩ | ⟨rfl, rfl, rfl, h⟩ | ⟨rfl, rfl, rfl, h⟩
      · omega
      all_goals
        clear h T1
        go_enter Try.func9, Try.ntmps9
        go_upto_region 4 with (first | ((with_reducible refine (HO.out _).mono ?_); rintro e1 w1 ⟨rfl, hb1⟩))
        go_quiet (fail)
        obtain ⟨T1, T2, T3⟩ := HT.out
        have T4 : (T : Int) ≤ 9223372036854775807 := by omega
        clear T1
        obtain ⟨j1, j2⟩ := HP.out
        clear hra i0
        go_wp2_with (first | ((with_reducible refine (HR.out _).mono ?_); rintro e1 w2 ⟨rfl, rfl⟩))
        go_ret2
        exact ⟨rfl, below_drewN (hb1.alloc hb1.size _) _⟩
    by_cases h64 : 64 < pl a
    · have ht := tr_high a h64
      obtain ⟨e, he⟩ : ∃ e : Nat, pl a = e := ⟨(pl a).toNat, by omega⟩
      rcases hout with ⟨h1, h2, _⟩ | ⟨_, _, _, h⟩ | ⟨_, _, _, h⟩
      · rw [h1, h2]
        have HE := Lib.hid (show decide (pl a ≤ 0) = false ∧ decide ((64 : Int) < pl a) = true from ⟨by simp; omega, by simp; omega⟩)
        clear h1 h2 ht h64 he h0 p1 p2 p3 fa e
        generalize pl a = pp at *
        generalize sg a = s at *
        generalize mg a = m at *
        generalize rg a = r at *
        go_enter Try.func9, Try.ntmps9
        go_upto_region 4 with (first | ((with_reducible refine (HO.out _).mono ?_); rintro e1 w1 ⟨rfl, hb1⟩))
        go_quiet (fail)
        obtain ⟨j1, j2⟩ := HE.out
        clear hra i0
        go_wp2_with fail
        go_ret2
        exact ⟨rfl, below_drewN (hb1.alloc hb1.size _) _⟩
      · omega
      · omega
    · obtain ⟨e, he⟩ : ∃ e : Nat, pl a = e := ⟨(pl a).toNat, by omega⟩
      have ht := tr_mid a e he
      have hW : W128 0 (mg a) = mg a := by unfold W128; omega
      have hTb : mg a * 2 ^ e < 2 ^ 128 := by
        have h1 : 2 ^ e ≤ 2 ^ 64 := Nat.pow_le_pow_right (by decide) (by omega)
        have h2 := Nat.mul_le_mul (Nat.le_of_lt p3) h1
        omega
      have hr := fun W => rleft_any W 0 (mg a) e (by omega) (by omega) (by rw [hW]; exact hTb)
      simp only [hW, ← ht, Int.natCast_zero] at hr
      rw [← ht] at hTb
      simp only [← he] at hr
      obtain ⟨X, hX⟩ : ∃ X, X = tr a / 18446744073709551616 := ⟨_, rfl⟩
      obtain ⟨Y, hY⟩ : ∃ Y, Y = tr a % 18446744073709551616 := ⟨_, rfl⟩
      rw [← hX, ← hY] at hr
      have HE := Lib.hid (show decide (pl a ≤ 0) = false ∧ decide ((64 : Int) < pl a) = false from ⟨by simp; omega, by simp; omega⟩)
      have HR := Lib.hid hr
      have hY2 : (Y : Int) ≤ 18446744073709551615 := by omega
      have cs : (fitI a = false ∧ intR a = 0 ∧ ((0 : Int) < (X : Int) ∨ (¬ (0 : Int) < (X : Int) ∧ decide ((9223372036854775808 : Int) < (Y : Int)) = true) ∨ (¬ (0 : Int) < (X : Int) ∧ decide ((9223372036854775808 : Int) < (Y : Int)) = false ∧ ((Y : Int) == 9223372036854775808) = true ∧ sg a = false))) ∨
          (fitI a = true ∧ ¬ (0 : Int) < (X : Int) ∧ decide ((9223372036854775808 : Int) < (Y : Int)) = false ∧ sg a = true ∧ (((Y : Int) == 9223372036854775808) = true ∧ intR a = -9223372036854775808 ∨ ((Y : Int) == 9223372036854775808) = false ∧ (Y : Int) ≤ 9223372036854775807 ∧ intR a = -(Y : Int))) ∨
          (fitI a = true ∧ ¬ (0 : Int) < (X : Int) ∧ decide ((9223372036854775808 : Int) < (Y : Int)) = false ∧ sg a = false ∧ ((Y : Int) == 9223372036854775808) = false ∧ (Y : Int) ≤ 9223372036854775807 ∧ intR a = (Y : Int)) := by
        rcases hout with ⟨h1, h2, h3⟩ | ⟨h1, h2, h3, h4⟩ | ⟨h1, h2, h3, h4⟩
        · refine .inl ⟨h1, h2, ?_⟩
          by_cases c1 : (0 : Int) < (X : Int)
          · exact .inl c1
          · by_cases c2 : (9223372036854775808 : Int) < (Y : Int)
            · exact .inr (.inl ⟨c1, by simp; omega⟩)
            · rcases h3 with h3 | ⟨h3, h5⟩
              · omega
              · exact .inr (.inr ⟨c1, by simp; omega, by rw [beq_iff_eq]; omega, h5⟩)
        · refine .inr (.inl ⟨h1, by omega, by simp; omega, h2, ?_⟩)
          by_cases c1 : (Y : Int) = 9223372036854775808
          · exact .inl ⟨by rw [beq_iff_eq]; omega, by omega⟩
          · exact .inr ⟨by rw [beq_eq_false_iff_ne]; omega, by omega, by omega⟩
        · exact .inr (.inr ⟨h1, by omega, by simp; omega, h2, by rw [beq_eq_false_iff_ne]; omega, by omega, by omega⟩)
      clear hr ht hTb hX hY he h64 h0 p1 p2 p3 fa hout hW
      generalize pl a = pp at *
      generalize fitI a = fi at *
      generalize intR a = v at *
      generalize sg a = s at *
      generalize mg a = m at *
      generalize rg a = r at *
      obtain ⟨B3, hB3⟩ : ∃ B, B = decide ((9223372036854775808 : Int) < (Y : Int)) := ⟨_, rfl⟩
      obtain ⟨B2, hB2⟩ : ∃ B, B = ((Y : Int) == 9223372036854775808) := ⟨_, rfl⟩
      obtain ⟨B1, hB1⟩ : ∃ B, B = decide ((0 : Int) < (X : Int)) := ⟨_, rfl⟩
      rw [← hB3, ← hB2] at cs
      have t3 := hB3.symm
      have t2 := hB2.symm
      have t1 := hB1.symm
      clear hY2
      rcases cs with ⟨rfl, rfl, c1 | ⟨c1, rfl⟩ | ⟨c1, rfl, rfl, rfl⟩⟩ | ⟨rfl, c1, rfl, rfl, ⟨rfl, rfl⟩ | ⟨rfl, c4, rfl⟩⟩ | ⟨rfl, c1, rfl, rfl, rfl, c4, rfl⟩
      · obtain rfl : B1 = true := by rw [hB1]; simp; omega
        have hX0 : ¬ X = 0 := by omega
        clear c1 hB1 hB2 hB3 t1
        go_enter Try.func9, Try.ntmps9
        go_upto_region 4 with (first | ((with_reducible refine (HO.out _).mono ?_); rintro e1 w1 ⟨rfl, hb1⟩))
        go_quiet (fail)
        obtain ⟨j1, j2⟩ := HE.out
        clear hra i0
        go_wp2_with (first | ((with_reducible refine (HR.out _).mono ?_); rintro e1 w2 ⟨rfl, rfl⟩))
        go_ret2
        exact ⟨rfl, below_drewN (hb1.alloc hb1.size _) _⟩
      · obtain rfl : B1 = false := by rw [hB1]; simp; omega
        obtain rfl : X = 0 := by omega
        rw [Int.natCast_zero] at HR
        have t4 := Lib.hid (of_decide_eq_true t3)
        clear c1 hB1 hB2 hB3
        go_enter Try.func9, Try.ntmps9
        go_upto_region 4 with (first | ((with_reducible refine (HO.out _).mono ?_); rintro e1 w1 ⟨rfl, hb1⟩))
        go_quiet (fail)
        obtain ⟨j1, j2⟩ := HE.out
        clear hra i0
        go_wp2_with (first | ((with_reducible refine (HR.out _).mono ?_); rintro e1 w2 ⟨rfl, rfl⟩))
        all_goals first
          | (go_ret2; exact ⟨rfl, below_drewN (hb1.alloc hb1.size _) _⟩)
          | (exfalso; have := t4.out; omega)
      · obtain rfl : B1 = false := by rw [hB1]; simp; omega
        obtain rfl : X = 0 := by omega
        rw [Int.natCast_zero] at HR
        obtain rfl : Y = 9223372036854775808 := by
          have := hB2.symm
          rw [beq_iff_eq] at this
          omega
        clear c1 hB1 hB2 hB3 t2 t3
        go_enter Try.func9, Try.ntmps9
        go_upto_region 4 with (first | ((with_reducible refine (HO.out _).mono ?_); rintro e1 w1 ⟨rfl, hb1⟩))
        go_quiet (fail)
        obtain ⟨j1, j2⟩ := HE.out
        clear hra i0
        go_wp2_with (first | ((with_reducible refine (HR.out _).mono ?_); rintro e1 w2 ⟨rfl, rfl⟩))
        go_ret2
        exact ⟨rfl, below_drewN (hb1.alloc hb1.size _) _⟩
      · obtain rfl : B1 = false := by rw [hB1]; simp; omega
        obtain rfl : X = 0 := by omega
        rw [Int.natCast_zero] at HR
        have hw := Lib.hid wrap_top
        obtain rfl : Y = 9223372036854775808 := by
          have := hB2.symm
          rw [beq_iff_eq] at this
          omega
        clear c1 hB1 hB2 hB3 t2 t3
        go_enter Try.func9, Try.ntmps9
        go_upto_region 4 with (first | ((with_reducible refine (HO.out _).mono ?_); rintro e1 w1 ⟨rfl, hb1⟩))
        go_quiet (fail)
        obtain ⟨j1, j2⟩ := HE.out
        clear hra i0
        go_wp2_with (first | ((with_reducible refine (HR.out _).mono ?_); rintro e1 w2 ⟨rfl, rfl⟩))
        go_ret2
        exact ⟨by rw [← hw.out]; rfl, below_drewN (hb1.alloc hb1.size _) _⟩
      · obtain rfl : B1 = false := by rw [hB1]; simp; omega
        obtain rfl : X = 0 := by omega
        rw [Int.natCast_zero] at HR
        clear c1 hB1 hB2 hB3
        go_enter Try.func9, Try.ntmps9
        go_upto_region 4 with (first | ((with_reducible refine (HO.out _).mono ?_); rintro e1 w1 ⟨rfl, hb1⟩))
        go_quiet (fail)
        obtain ⟨j1, j2⟩ := HE.out
        clear hra i0
        go_wp2_with (first | ((with_reducible refine (HR.out _).mono ?_); rintro e1 w2 ⟨rfl, rfl⟩))
        go_ret2
        exact ⟨rfl, below_drewN (hb1.alloc hb1.size _) _⟩
      · obtain rfl : B1 = false := by rw [hB1]; simp; omega
        obtain rfl : X = 0 := by omega
        rw [Int.natCast_zero] at HR
        clear c1 hB1 hB2 hB3
        go_enter Try.func9, Try.ntmps9
        go_upto_region 4 with (first | ((with_reducible refine (HO.out _).mono ?_); rintro e1 w1 ⟨rfl, hb1⟩))
        go_quiet (fail)
        obtain ⟨j1, j2⟩ := HE.out
        clear hra i0
        go_wp2_with (first | ((with_reducible refine (HR.out _).mono ?_); rintro e1 w2 ⟨rfl, rfl⟩))
        go_ret2
        exact ⟨rfl, below_drewN (hb1.alloc hb1.size _) _⟩
  · have hf : fitI a = false := by unfold fitI; rw [decide_eq_false fa, Bool.false_and]
    have hi : intR a = 0 := by unfold intR; rw [hf]; rfl
    rw [hf, hi]
    have i0 : (9218868437227405312 : Int) ≤ (rg a : Int) := by unfold inf at fa; omega
    clear hf hi fa
    generalize rg a = r at *
    go_enter Try.func9, Try.ntmps9
    go_wp2_with fail
    go_ret2
    exact ⟨rfl, Below.refl _ _⟩
end Go.Proofs.Ytlgnkgcofdjamaa
