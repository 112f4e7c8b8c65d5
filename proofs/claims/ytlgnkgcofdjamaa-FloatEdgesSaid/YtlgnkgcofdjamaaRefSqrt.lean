/-
  The document's own Sqrt.
-/
import Derived.Test.YtlgnkgcofdjamaaRefD
namespace Go.Proofs.Ytlgnkgcofdjamaa
open Go.RowKit

theorem sqrtB_minus (a : Nat) (hs : sg a = true) (h0 : rg a ≠ 0) (hn : ¬ isNone a) : sqrtB a = NAN := by
  unfold sqrtB Ieee.Format.sqrt
  unfold isNone at hn
  by_cases hi : rg a = inf
  · rw [read_inf a hi, hs]; rfl
  · rw [read_mg a (by omega), hs]
    have hm : mg a ≠ 0 := fun h => h0 ((mg_zero a).1 h)
    simp only [Ieee.Datum.root, if_neg hm, if_true, Option.map_none, Option.getD_none]
theorem sqrtB_zero (a : Nat) (ha : a < 2 ^ 64) (h0 : rg a = 0) : sqrtB a = a := by
  unfold sqrtB Ieee.Format.sqrt
  have hi : (0 : Nat) < inf := by decide
  rw [read_mg a (by omega)]
  rw [(mg_zero a).2 h0]
  simp only [Ieee.Datum.root, if_true, Option.map_some, Option.getD_some, Ieee.Format.write]
  rw [nearest_zero]
  have := mk_of a ha
  rw [h0] at this
  exact this
theorem sqrtB_inf (a : Nat) (h : a = inf) : sqrtB a = a := by
  subst h
  unfold sqrtB Ieee.Format.sqrt
  rw [read_inf inf (by decide), show sg inf = false by decide]
  rfl
/-- The digits of a root from place t upwards. -/
structure Dig (N : Nat) (r t : Nat) : Prop where
  le : r * r ≤ N
  lt : N < (r + 2 ^ t) * (r + 2 ^ t)
  dv : r % 2 ^ t = 0
  up : r + 2 ^ t ≤ 2 ^ 64
theorem rt_start (N : Nat) (h : N < 2 ^ 128) : Dig N 0 64 := ⟨Nat.zero_le _, by rw [Nat.zero_add, ← Nat.pow_add]; exact h, Nat.zero_mod _, Nat.le_refl _⟩
theorem rt_next {N r t : Nat} (h : Dig N r (t + 1)) : r + 2 ^ t < 2 ^ 64 ∧ ((r + 2 ^ t) * (r + 2 ^ t) ≤ N → Dig N (r + 2 ^ t) t) ∧ (N < (r + 2 ^ t) * (r + 2 ^ t) → Dig N r t) ∧ bits .or .u64 (r : Int) ((2 ^ t : Nat) : Int) = ((r + 2 ^ t : Nat) : Int) := by
  have h1 := h.up
  have h2 := h.dv
  have hp : 0 < 2 ^ t := Nat.two_pow_pos t
  have e : 2 ^ (t + 1) = 2 ^ t + 2 ^ t := by rw [Nat.pow_succ]; omega
  have hd := Nat.div_add_mod r (2 ^ (t + 1))
  rw [h2, Nat.add_zero] at hd
  have hdiv : r % 2 ^ t = 0 := by
    rw [← hd, e, Nat.add_mul, Nat.add_mod, Nat.mul_mod_right]
    simp
  have ht : t ≤ 64 := by
    by_cases hh : t ≤ 64
    · exact hh
    · have : 2 ^ 65 ≤ 2 ^ (t + 1) := Nat.pow_le_pow_right (by decide) (by omega)
      omega
  have ht1 : t + 1 ≤ 64 := by
    by_cases hh : t + 1 ≤ 64
    · exact hh
    · have : 2 ^ 65 ≤ 2 ^ (t + 1) := Nat.pow_le_pow_right (by decide) (by omega)
      omega
  refine ⟨by rw [e] at h1; omega, fun hle => ⟨hle, by have := h.lt; rw [e, ← Nat.add_assoc] at this; exact this, by rw [Nat.add_mod, hdiv, Nat.mod_self]; simp, by rw [e] at h1; omega⟩, fun hlt => ⟨h.le, hlt, hdiv, by rw [e] at h1; omega⟩, ?_⟩
  have hor := or_parts (r / 2 ^ (t + 1)) (t + 1) (2 ^ t) (by rw [e]; omega) (by rw [Nat.mul_comm, hd]; rw [e] at h1; omega) ht1
  rw [Nat.mul_comm (r / 2 ^ (t + 1)), hd] at hor
  exact hor
theorem rt_end {N r : Nat} (h : Dig N r 0) : IsRoot r N := by
  have := h.lt
  rw [Nat.pow_zero] at this
  exact ⟨h.le, this⟩
theorem len_mg (a : Nat) (h : mg a ≠ 0) : len (W128 0 (mg a)) = (mg a).log2 + 1 ∧ (mg a).log2 ≤ 52 := by
  have hW : W128 0 (mg a) = mg a := by unfold W128; omega
  have := (Nat.log2_lt h).2 (mg_lt a)
  unfold len
  rw [hW, if_neg h]
  omega
theorem parts_le (T N : Nat) : T ≤ N ↔ (T / 18446744073709551616 < N / 18446744073709551616 ∨ (T / 18446744073709551616 = N / 18446744073709551616 ∧ T % 18446744073709551616 ≤ N % 18446744073709551616)) := by omega
theorem bne_nat2 (a b : Nat) : (((a : Nat) : Int) != ((b : Nat) : Int)) = decide (a ≠ b) := by
  by_cases h : a = b
  · subst h; simp
  · have : ((a : Nat) : Int) ≠ ((b : Nat) : Int) := by omega
    simp [this, h]
set_option maxRecDepth 100000 in
set_option maxHeartbeats 4000000 in
theorem rsqrt_fin (w : World) (a : Nat) (ha : a < 2 ^ 64) (fa : rg a < inf) (hs : sg a = false) (h0 : rg a ≠ 0) : Calls Try.prog 25 #[.int .u64 a] w fun e w' => e = .returned (.int .u64 (sqrtB a)) ∧ Below w.heap.size w w' := by
  have hm0 : mg a ≠ 0 := fun h => h0 ((mg_zero a).1 h)
  obtain ⟨hlen, hlog⟩ := len_mg a hm0
  have hna := rnone_any w a ha
  rw [decide_eq_false (by unfold isNone; omega)] at hna
  have hra := andNot_sign a ha
  have hrga : rg a = a := by
    have := mk_of a ha
    rw [hs] at this
    unfold mk at this
    simpa using this
  have i1 : ¬ (9223372036854775808 : Int) < (a : Int) := by have := rg_lt a; omega
  have i2 : ((rg a : Int) == 0) = false := by rw [beq_eq_false_iff_ne]; omega
  have i3 : ((a : Int) == 9218868437227405312) = false := by rw [beq_eq_false_iff_ne]; unfold inf at fa; omega
  obtain ⟨p1, p2, p3⟩ := open_bounds a fa
  have HO := Lib.hid (fun W => open_any W a ha fa)
  have HLN := Lib.hid (fun W => rlength_any W 0 (mg a) (by decide) (by omega))
  -- how far it is shifted
  obtain ⟨m0, hm⟩ : ∃ m0 : Nat, m0 = 125 - (mg a).log2 := ⟨_, rfl⟩
  obtain ⟨n, hn⟩ : ∃ n : Nat, n = if (pl a - m0) % 2 = 0 then m0 else m0 - 1 := ⟨_, rfl⟩
  have hn1 : n + (mg a).log2 = 125 ∨ n + (mg a).log2 = 124 := by split at hn <;> omega
  have hpar : (pl a - n) % 2 = 0 := by split at hn <;> omega
  have hn2 : n ≤ 125 ∧ 72 ≤ n := by omega
  obtain ⟨B, hB⟩ : ∃ B, B = ((pl a - (m0 : Int)).tmod 2 != 0) := ⟨_, rfl⟩
  have hBn : (B = false ∧ n = m0) ∨ (B = true ∧ (m0 : Int) - 1 = (n : Int)) := by
    by_cases h : (pl a - m0) % 2 = 0
    · rw [if_pos h] at hn
      refine .inl ⟨?_, hn⟩
      rw [hB, bne_eq_false_iff_eq, Int.tmod_eq_emod]
      split <;> omega
    · rw [if_neg h] at hn
      refine .inr ⟨?_, by omega⟩
      rw [hB, bne_iff_ne, Int.tmod_eq_emod]
      split <;> omega
  obtain ⟨N, hN⟩ : ∃ N, N = mg a * 2 ^ n := ⟨_, rfl⟩
  have hNl : N < 2 ^ 126 ∧ 2 ^ 124 ≤ N := by
    have h1 := Nat.log2_self_le hm0
    have h2 : mg a < 2 ^ ((mg a).log2 + 1) := Nat.lt_log2_self
    rw [hN]
    constructor
    · have := (Nat.mul_lt_mul_right (Nat.two_pow_pos n)).2 h2
      rw [← Nat.pow_add] at this
      exact Nat.lt_of_lt_of_le this (Nat.pow_le_pow_right (by decide) (by omega))
    · have := Nat.mul_le_mul_right (2 ^ n) h1
      rw [← Nat.pow_add] at this
      exact Nat.le_trans (Nat.pow_le_pow_right (by decide) (by omega)) this
  have hW : W128 0 (mg a) = mg a := by unfold W128; omega
  have hl := fun W => rleft_any W 0 (mg a) n (by omega) (by omega) (by rw [hW, ← hN]; omega)
  simp only [hW, ← hN, Int.natCast_zero] at hl
  have hsn := fun r hr => sqrt_near a fa hs hm0 n hn1 hpar r hr
  rw [← hN] at hsn
  have HSN := Lib.hid hsn
  obtain ⟨X, hX⟩ : ∃ X, X = N / 18446744073709551616 := ⟨_, rfl⟩
  obtain ⟨Y, hY⟩ : ∃ Y, Y = N % 18446744073709551616 := ⟨_, rfl⟩
  rw [← hX, ← hY] at hl
  have HL := Lib.hid hl
  have HXY := Lib.hid (And.intro hX (And.intro hY hNl))
  have h126 : (126 : Int) - (len (W128 0 (mg a)) : Nat) = (m0 : Int) := by rw [hlen]; omega
  have hE : ∃ E : Int, (pl a - (n : Int)).tdiv 2 = E ∧ (pl a - (n : Int)) / 2 = E ∧ -10000 ≤ E ∧ E ≤ 10000 := by
    refine ⟨(pl a - (n : Int)) / 2, ?_, rfl, by omega, by omega⟩
    rw [Int.tdiv_eq_ediv_of_dvd (by omega)]
  obtain ⟨E, hE1, hE2, hE3, hE4⟩ := hE
  have hm2 : (m0 : Int) ≤ 125 := by omega
  have hm3 : (1 : Int) ≤ (m0 : Int) := by omega
  have hn3 : (n : Int) ≤ 125 := by omega
  have hB' := hB.symm
  rw [hE2] at HSN
  rw [Int.natCast_zero] at HLN
  generalize len (W128 0 (mg a)) = ℓ at *
  clear hn hn1 hpar hn2 hN hNl hW hl hsn hX hY hlen hlog hm hB hE2 hm0 hrga h0 hs
  generalize sqrtB a = v at *
  generalize mg a = m at *
  generalize pl a = pp at *
  generalize sg a = sa at *
  have HRA := Lib.hid (And.intro fa (And.intro i1 i3))
  clear fa
  generalize rg a = r0 at *
  go_enter Try.func25, Try.ntmps25
  go_upto_if 41 with (first | ((with_reducible refine hna.mono ?_); rintro e w' ⟨rfl, rfl⟩) | ((with_reducible refine (HO.out _).mono ?_); rintro e w1 ⟨rfl, hb1⟩) | ((with_reducible refine (HLN.out _).mono ?_); rintro e w' ⟨rfl, rfl⟩))
  have hbx := hb1.alloc hb1.size (.cells #[.bool sa, .int .u64 0, .int .u64 m, .int .i64 pp, .bool false] 41)
  have HBX := Lib.hid hbx
  have HPP := Lib.hid (show (pp - (n : Int)).tdiv 2 = E from hE1)
  clear hbx hb1 hra i1 i2 i3 HRA
  go_cut [4] from 102 (fun v wr => v = .int .i64 n ∧ wr = w1.alloc (.cells #[.bool sa, .int .u64 0, .int .u64 m, .int .i64 pp, .bool false] 41))
  case first =>
    rcases hBn with ⟨rfl, rfl⟩ | ⟨rfl, hBn⟩
    · go_wp2_with fail
      go_meet
      case rel => exact ⟨rfl, rfl⟩
    · go_wp2_with fail
      go_meet
      case rel => exact ⟨rfl, rfl⟩
  case rest =>
    obtain ⟨rfl, rfl⟩ := hcut
    clear hBn hB' h126 hm2 hm3
    go_wp2_with (first | ((with_reducible refine (HL.out _).mono ?_); rintro e w' ⟨rfl, rfl⟩))
    go_loopw [7, 8] (fun r i W => ∃ (t r1 : Nat), i = .int .i64 ((t : Int) - 1) ∧ r = .int .u64 r1 ∧ Dig N r1 t ∧ t ≤ 64 ∧ W = w1.alloc (.cells #[.bool sa, .int .u64 0, .int .u64 m, .int .i64 pp, .bool false] 41)) (fun _ i _ => (intOf i + 1).toNat)
    case atStart => exact ⟨64, 0, rfl, rfl, rt_start N (by have := HXY.out.2.2.1; omega), by omega, rfl⟩
    case round =>
      obtain ⟨t, r1, rfl, rfl, hdig, ht, rfl⟩ := hrel
      have HD := Lib.hid hdig
      clear hdig
      rcases Nat.eq_zero_or_pos t with h0 | h0
      · subst h0
        have hroot := rt_end HD.out
        have hup := HD.out.up
        have hv := HSN.out r1 hroot
        have hr62 : 2 ^ 53 ≤ r1 := by
          have h1 := HXY.out.2.2.2
          have h2 : 2 ^ 62 * 2 ^ 62 < (r1 + 1) * (r1 + 1) := Nat.lt_of_le_of_lt (by rw [← Nat.pow_add]; exact h1) hroot.2
          have := sq_lt h2
          omega
        have hmul := fun W => Try.bits_Mul64 r1 r1 (by omega) (by omega) W
        have hsq : (r1 * r1 ≠ N) ↔ (r1 * r1 / 18446744073709551616 ≠ X ∨ r1 * r1 % 18446744073709551616 ≠ Y) := by
          have h1 := HXY.out.1
          have h2 := HXY.out.2.1
          omega
        have hW : W128 0 r1 = r1 := by unfold W128; omega
        have hrd := fun W => rounded_all W false 0 r1 E (decide (r1 * r1 ≠ N)) (by decide) (by omega) (by omega) (by omega) (fun _ => by rw [hW]; exact hr62)
        simp only [hW, ← hv, Int.natCast_zero] at hrd
        generalize r1 * r1 / 18446744073709551616 = P at *
        generalize r1 * r1 % 18446744073709551616 = Q at *
        have cs : ((((P : Nat) : Int) != ((X : Nat) : Int)) = true ∧ decide (r1 * r1 ≠ N) = true) ∨ ((((P : Nat) : Int) != ((X : Nat) : Int)) = false ∧ (((Q : Nat) : Int) != ((Y : Nat) : Int)) = decide (r1 * r1 ≠ N)) := by
          rw [bne_nat2, bne_nat2]
          by_cases h1 : P = X
          · refine .inr ⟨by simp [h1], ?_⟩
            rw [decide_eq_decide, hsq]
            constructor
            · intro h; exact .inr h
            · intro h; rcases h with h | h
              · exact absurd h1 h
              · exact h
          · exact .inl ⟨by simp [h1], decide_eq_true (hsq.2 (.inl h1))⟩
        generalize decide (r1 * r1 ≠ N) = mo at *
        have HM := Lib.hid hmul
        have HRD := Lib.hid hrd
        have HPE := HPP.out
        clear hroot hup hv hr62 hmul hsq hW hrd
        rcases cs with ⟨k1, rfl⟩ | ⟨k1, k2⟩
        · go_wp2_with (first | ((with_reducible refine (HM.out _).mono ?_); rintro e w' ⟨rfl, rfl⟩))
          refine (HRD.out _).mono ?_
          rintro e w3 ⟨rfl, hb4⟩
          have HBZ := Lib.hid (HBX.out.trans (hb4.mono HBX.out.size))
          clear hb4
          go_wp2_with fail
          go_ret
          exact ⟨rfl, HBZ.out⟩
        · go_wp2_with (first | ((with_reducible refine (HM.out _).mono ?_); rintro e w' ⟨rfl, rfl⟩))
          refine (HRD.out _).mono ?_
          rintro e w3 ⟨rfl, hb4⟩
          have HBZ := Lib.hid (HBX.out.trans (hb4.mono HBX.out.size))
          clear hb4
          go_wp2_with fail
          go_ret
          exact ⟨rfl, HBZ.out⟩
      · obtain ⟨j, rfl⟩ : ∃ j, t = j + 1 := ⟨t - 1, by omega⟩
        obtain ⟨n1, n2, n3, n4⟩ := rt_next HD.out
        obtain ⟨Z, hZ⟩ : ∃ Z, Z = 2 ^ j := ⟨_, rfl⟩
        have hZ2 : (2 : Int) ^ j = (Z : Int) := by rw [hZ]; simp
        rw [← hZ] at n1 n2 n3 n4
        clear hZ
        obtain ⟨T, hT⟩ : ∃ T, T = r1 + Z := ⟨_, rfl⟩
        rw [← hT] at n1 n2 n3 n4
        have hmul := fun W => Try.bits_Mul64 T T (by omega) (by omega) W
        obtain ⟨P, hP⟩ : ∃ P, P = T * T / 18446744073709551616 := ⟨_, rfl⟩
        obtain ⟨Q, hQ⟩ : ∃ Q, Q = T * T % 18446744073709551616 := ⟨_, rfl⟩
        rw [← hP, ← hQ] at hmul
        have hcmp := parts_le (T * T) N
        rw [← hP, ← hQ, ← HXY.out.1, ← HXY.out.2.1] at hcmp
        have HM := Lib.hid hmul
        have HN2 := Lib.hid n2
        have HN3 := Lib.hid n3
        have HC := Lib.hid hcmp
        have hj1 : ((j + 1 : Nat) : Int) - 1 = (j : Int) := by omega
        have hj2 : (j : Int) ≤ 63 := by omega
        have hj3 : (0 : Int) ≤ (j : Int) := by omega
        have hZ3 : (Z : Int) ≤ 18446744073709551615 := by omega
        clear hT hP hQ hmul n2 n3 hcmp n1
        have hc : (P < X) ∨ (P = X ∧ Q ≤ Y) ∨ (P = X ∧ Y < Q) ∨ X < P := by omega
        rcases hc with hc | ⟨rfl, hc⟩ | ⟨rfl, hc⟩ | hc
        · have hle := HN2.out (HC.out.2 (.inl hc))
          have HE := Lib.hid hle
          have k1 : (P : Int) < (X : Int) := by omega
          clear hle hc
          go_wp2_with (first | ((with_reducible refine (HM.out _).mono ?_); rintro e w' ⟨rfl, rfl⟩))
          refine ⟨⟨j, T, rfl, rfl, HE.out, by omega, trivial⟩, ?_⟩
          simp [intOf]
        · have hle := HN2.out (HC.out.2 (.inr ⟨rfl, hc⟩))
          have HE := Lib.hid hle
          have k1 : (Q : Int) ≤ (Y : Int) := by omega
          clear hle hc
          go_wp2_with (first | ((with_reducible refine (HM.out _).mono ?_); rintro e w' ⟨rfl, rfl⟩))
          refine ⟨⟨j, T, rfl, rfl, HE.out, by omega, trivial⟩, ?_⟩
          simp [intOf]
        · have hle := HN3.out (Nat.lt_of_not_le (fun h => by have := HC.out.1 h; omega))
          have HE := Lib.hid hle
          have k1 : ¬ (Q : Int) ≤ (Y : Int) := by omega
          clear hle hc
          go_wp2_with (first | ((with_reducible refine (HM.out _).mono ?_); rintro e w' ⟨rfl, rfl⟩))
          refine ⟨⟨j, r1, rfl, rfl, HE.out, by omega, trivial⟩, ?_⟩
          simp [intOf]
        · have hle := HN3.out (Nat.lt_of_not_le (fun h => by have := HC.out.1 h; omega))
          have HE := Lib.hid hle
          have k1 : ¬ (P : Int) < (X : Int) := by omega
          have k2 : ((P : Int) == (X : Int)) = false := by rw [beq_eq_false_iff_ne]; omega
          clear hle hc
          go_wp2_with (first | ((with_reducible refine (HM.out _).mono ?_); rintro e w' ⟨rfl, rfl⟩))
          refine ⟨⟨j, r1, rfl, rfl, HE.out, by omega, trivial⟩, ?_⟩
          simp [intOf]
set_option maxRecDepth 100000 in
theorem rsqrt_any (w : World) (a : Nat) (ha : a < 2 ^ 64) : Calls Try.prog 25 #[.int .u64 a] w fun e w' => e = .returned (.int .u64 (sqrtB a)) ∧ Below w.heap.size w w' := by
  have hna := rnone_any w a ha
  have hra := andNot_sign a ha
  by_cases na : isNone a
  · rw [decide_eq_true na] at hna
    have hv : sqrtB a = NAN := by unfold sqrtB; rw [sqrt_none a na]; rfl
    rw [hv]
    clear hra hv na
    go_enter Try.func25, Try.ntmps25
    go_wp2_with (first | ((with_reducible refine hna.mono ?_); rintro e w' ⟨rfl, rfl⟩))
    go_ret
    exact ⟨rfl, Below.refl _ _⟩
  by_cases h0 : rg a = 0
  · rw [decide_eq_false na] at hna
    rw [sqrtB_zero a ha h0]
    rw [h0] at hra
    have i1 : decide ((9223372036854775808 : Int) < (a : Int)) = false := by
      have := mk_of a ha
      rw [h0] at this
      unfold mk at this
      simp
      split at this <;> omega
    have i2 : bits .andNot .u64 (a : Int) 9223372036854775808 = 0 := hra
    clear hra h0 na
    go_enter Try.func25, Try.ntmps25
    go_wp2_with (first | ((with_reducible refine hna.mono ?_); rintro e w' ⟨rfl, rfl⟩))
    go_ret
    exact ⟨rfl, Below.refl _ _⟩
  by_cases hs : sg a = true
  · rw [decide_eq_false na] at hna
    rw [sqrtB_minus a hs h0 na]
    have i1 : decide ((9223372036854775808 : Int) < (a : Int)) = true := by
      have := mk_of a ha
      rw [hs] at this
      unfold mk at this
      simp at this ⊢
      omega
    clear hra h0 na hs
    go_enter Try.func25, Try.ntmps25
    go_wp2_with (first | ((with_reducible refine hna.mono ?_); rintro e w' ⟨rfl, rfl⟩))
    go_ret
    exact ⟨rfl, Below.refl _ _⟩
  have hs' : sg a = false := by simpa using hs
  by_cases hi : rg a = inf
  · rw [decide_eq_false na] at hna
    have hai : a = inf := by
      have := mk_of a ha
      rw [hs', hi] at this
      exact this.symm
    rw [sqrtB_inf a hai]
    have i1 : decide ((9223372036854775808 : Int) < (a : Int)) = false := by rw [hai]; decide
    have i2 : ((a : Int) == 9218868437227405312) = true := by rw [hai]; decide
    have i3 : ((rg a : Int) == 0) = false := by rw [beq_eq_false_iff_ne]; omega
    clear na hs hs' hi hai h0
    generalize rg a = r at *
    go_enter Try.func25, Try.ntmps25
    go_wp2_with (first | ((with_reducible refine hna.mono ?_); rintro e w' ⟨rfl, rfl⟩))
    go_ret
    exact ⟨rfl, Below.refl _ _⟩
  · exact rsqrt_fin w a ha (by unfold isNone at na; omega) hs' h0
end Go.Proofs.Ytlgnkgcofdjamaa
