/-
  math/bits.Div64 by a divisor whose first bit is 1.
-/
import Derived.Test.YtlgnkgcofdjamaaRefD
namespace Go.Proofs.Ytlgnkgcofdjamaa
open Go.RowKit

theorem rem_wrap (H u y : Nat) (hy : y < 2 ^ 64) (h0 : 0 < y) : IntKind.u64.wrap (IntKind.u64.wrap (IntKind.u64.wrap ((H : Int) * 4294967296) + (u : Int)) - IntKind.u64.wrap ((((H * 4294967296 + u) / y : Nat) : Int) * (y : Int))) = (((H * 4294967296 + u) % y : Nat) : Int) := by
  have h1 := Nat.div_add_mod (H * 4294967296 + u) y
  have h2 := Nat.mod_lt (H * 4294967296 + u) h0
  generalize (H * 4294967296 + u) % y = R at *
  generalize (H * 4294967296 + u) / y = D at *
  obtain ⟨P, hP⟩ : ∃ P, P = y * D := ⟨_, rfl⟩
  rw [← hP] at h1
  have e : (D : Int) * (y : Int) = (P : Int) := by rw [hP, Int.natCast_mul, Int.mul_comm]
  rw [e]
  simp only [IntKind.wrap_u64]
  omega
set_option maxRecDepth 100000 in
set_option maxHeartbeats 8000000 in
theorem div64_any (w : World) (hi lo y : Nat) (h0 : hi ≠ 0) (h1 : hi < y) (hy : 2 ^ 63 ≤ y) (hy2 : y < 2 ^ 64) (hl : lo < 2 ^ 64) :
    Calls Try.prog 54 #[.int .u64 hi, .int .u64 lo, .int .u64 y] w fun e w' => e = .returned (.tuple #[.int .u64 (((hi * 18446744073709551616 + lo) / y : Nat) : Int), .int .u64 (((hi * 18446744073709551616 + lo) % y : Nat) : Int)]) ∧ w = w' := by
  obtain ⟨kb1, kb2⟩ := kn_both hi lo y h1
  rw [kb1, kb2]
  clear kb1 kb2
  have hlz := Try.bits_LeadingZeros64 (y : Int) w (by omega) (by omega)
  rw [Int.toNat_natCast, bitLen_len y hy2] at hlz
  have hlen : len y = 64 := by
    unfold len
    rw [if_neg (by omega)]
    have : y.log2 = 63 := by rw [Nat.log2_eq_iff (by omega)]; omega
    rw [this]
  rw [hlen] at hlz
  obtain ⟨a, ha⟩ : ∃ a, a = y / 4294967296 := ⟨_, rfl⟩
  obtain ⟨c, hc⟩ : ∃ c, c = y % 4294967296 := ⟨_, rfl⟩
  obtain ⟨u1, hu1⟩ : ∃ u, u = lo / 4294967296 := ⟨_, rfl⟩
  obtain ⟨u0, hu0⟩ : ∃ u, u = lo % 4294967296 := ⟨_, rfl⟩
  have hyac : y = a * 4294967296 + c := by omega
  have ha1 : 2147483648 ≤ a := by omega
  have ha2 : a < 4294967296 := by omega
  have hc2 : c < 4294967296 := by omega
  have hu12 : u1 < 4294967296 := by omega
  have hu02 : u0 < 4294967296 := by omega
  have ay : (y : Int) / 4294967296 = (a : Int) := by omega
  have cy : bits .and .u64 (y : Int) 4294967295 = (c : Int) := by
    rw [show (4294967295 : Int) = ((2 ^ 32 - 1 : Nat) : Int) from rfl, and_nat _ _ hy2 (by decide), Nat.and_two_pow_sub_one_eq_mod, hc]
  have u1l : (lo : Int) / 4294967296 = (u1 : Int) := by omega
  have u0l : bits .and .u64 (lo : Int) 4294967295 = (u0 : Int) := by
    rw [show (4294967295 : Int) = ((2 ^ 32 - 1 : Nat) : Int) from rfl, and_nat _ _ hl (by decide), Nat.and_two_pow_sub_one_eq_mod, hu0]
  have or0 : bits .or .u64 (hi : Int) 0 = (hi : Int) := by
    have := or_nat hi 0 (by omega) (by decide)
    rw [Nat.or_zero] at this
    exact this
  have lo0 : (lo : Int) / 18446744073709551616 = 0 := by omega
  have i1 : ((y : Int) == 0) = false := by rw [beq_eq_false_iff_ne]; omega
  have i2 : ¬ (y : Int) ≤ (hi : Int) := by omega
  have i3 : ((hi : Int) == 0) = false := by rw [beq_eq_false_iff_ne]; omega
  have HLZ := Lib.hid hlz
  have hK0 := kn_start hi u1 a c ha1 hc2 hu12 (by rw [← hyac]; exact h1)
  have hQb := hK0.le
  have hR0 := Nat.mod_lt hi (show 0 < a by omega)
  have hDM := Nat.div_add_mod hi a
  have hq0 : (hi : Int) / (a : Int) = ((hi / a : Nat) : Int) := by omega
  generalize hi / a = Q0 at *
  generalize hi % a = R0 at *
  obtain ⟨P0, hP0⟩ : ∃ P, P = a * Q0 := ⟨_, rfl⟩
  rw [← hP0] at hDM
  have hP1 : (Q0 : Int) * (a : Int) = (P0 : Int) := by rw [hP0, Int.natCast_mul, Int.mul_comm]
  have hs0 : (hi : Int) - (P0 : Int) = (R0 : Int) := by omega
  have hP2 : (P0 : Int) ≤ 18446744073709551615 := by omega
  have hP3 : (0 : Int) ≤ (P0 : Int) := by omega
  have HYC := Lib.hid (And.intro hyac (And.intro hu1 hu0))
  have HK0 := Lib.hid (And.intro hK0 hR0)
  obtain ⟨D1, hD1⟩ : ∃ D, D = (hi * 4294967296 + u1) / y := ⟨_, rfl⟩
  have HD1 := Lib.hid hD1
  have hu1' : lo / 4294967296 = u1 := hu1.symm
  have hu0' : lo % 4294967296 = u0 := hu0.symm
  rw [hu1', hu0', ← hD1]
  clear hlz hlen ha hc hyac hu1 hu0 hK0 hP0 hDM hR0 hD1 hu1' hu0'
  obtain ⟨R1, hR1⟩ : ∃ R, R = (hi * 4294967296 + u1) % y := ⟨_, rfl⟩
  have hw1 := rem_wrap hi u1 y hy2 (by omega)
  have hR1y := Nat.mod_lt (hi * 4294967296 + u1) (show 0 < y by omega)
  have hD1b := (kn_digit hi u1 y hu12 h1).1
  rw [← HD1.out, ← hR1] at hw1
  rw [← HD1.out] at hD1b
  rw [← hR1] at hR1y ⊢
  clear hR1
  have hk2 := kn_start R1 u0 a c ha1 hc2 hu02 (by rw [← HYC.out.1]; exact hR1y)
  have hQ2b := hk2.le
  have hR2 := Nat.mod_lt R1 (show 0 < a by omega)
  have hDM2 := Nat.div_add_mod R1 a
  have hq2 : (R1 : Int) / (a : Int) = ((R1 / a : Nat) : Int) := by omega
  have hq2t : ((R1 : Int)).tdiv (a : Int) = ((R1 / a : Nat) : Int) := by rw [Int.tdiv_eq_ediv_of_nonneg (by omega)]; exact hq2
  generalize R1 / a = Q2 at *
  generalize R1 % a = R2 at *
  obtain ⟨P2, hP2'⟩ : ∃ P, P = a * Q2 := ⟨_, rfl⟩
  rw [← hP2'] at hDM2
  have hP12 : (Q2 : Int) * (a : Int) = (P2 : Int) := by rw [hP2', Int.natCast_mul, Int.mul_comm]
  have hs2 : (R1 : Int) - (P2 : Int) = (R2 : Int) := by omega
  have hP22 : (P2 : Int) ≤ 18446744073709551615 := by omega
  have hP32 : (0 : Int) ≤ (P2 : Int) := by omega
  have hR1b : (R1 : Int) ≤ 18446744073709551615 := by omega
  have HR2 := Lib.hid hR2
  have HHB := Lib.hid (show hi < a * 4294967296 + c by rw [← HYC.out.1]; exact h1)
  have HRB := Lib.hid (show R1 < a * 4294967296 + c by rw [← HYC.out.1]; exact hR1y)
  obtain ⟨D2, hD2⟩ : ∃ D, D = (R1 * 4294967296 + u0) / y := ⟨_, rfl⟩
  obtain ⟨R3, hR3⟩ : ∃ R, R = (R1 * 4294967296 + u0) % y := ⟨_, rfl⟩
  have hw2 := rem_wrap R1 u0 y hy2 (by omega)
  have hD2b := (kn_digit R1 u0 y hu02 hR1y).1
  have hR3y := Nat.mod_lt (R1 * 4294967296 + u0) (show 0 < y by omega)
  rw [← hD2, ← hR3] at hw2
  rw [← hD2] at hD2b
  rw [← hR3] at hR3y
  rw [← hD2, ← hR3]
  have HD2 := Lib.hid hD2
  obtain ⟨QQ, hQQ⟩ : ∃ Q, Q = D1 * 4294967296 + D2 := ⟨_, rfl⟩
  rw [← hQQ]
  have hqq : (D1 : Int) * 4294967296 + (D2 : Int) = (QQ : Int) := by omega
  have hqb : (QQ : Int) ≤ 18446744073709551615 := by omega
  have hqw : IntKind.u64.wrap (QQ : Int) = (QQ : Int) := wrap_nat QQ (by omega)
  clear hQQ
  have HW1 := Lib.hid hw1
  clear hD2 hR3 hP2' hDM2 hR2
  go_enter Try.func54, Try.ntmps54
  go_wp2_with fail
  refine HLZ.out.mono ?_
  rintro e w' ⟨rfl, rfl⟩
  go_wp2_with fail
  clear hq0 hP1 hs0
  go_loopw [15, 16] (fun q r W => ∃ q1 r1 : Nat, q = .int .u64 q1 ∧ r = .int .u64 r1 ∧ Kn hi u1 a c q1 r1 ∧ r1 < 4294967296 ∧ W = w') (fun _ r _ => 4294967296 - (intOf r).toNat)
  case atStart => exact ⟨Q0, R0, rfl, rfl, HK0.out.1, by have := HK0.out.2; omega, rfl⟩
  case round =>
    obtain ⟨q1, r1, rfl, rfl, hk, hr1, rfl⟩ := hrel
    have hq1 := hk.le
    have hqc : q1 * c ≤ 4294967297 * 4294967295 := Nat.mul_le_mul hq1 (by omega)
    have HK := Lib.hid hk
    clear hk HK0
    obtain ⟨P, hP⟩ : ∃ P, P = q1 * c := ⟨_, rfl⟩
    rw [← hP] at hqc
    have hP4 : (q1 : Int) * (c : Int) = (P : Int) := by rw [hP, Int.natCast_mul]
    have HP := Lib.hid hP
    clear hP
    have hP5 : (P : Int) ≤ 18446744073709551615 := by omega
    have hP6 : (0 : Int) ≤ (P : Int) := by omega
    by_cases ht : 4294967296 ≤ q1 ∨ 4294967296 * r1 + u1 < P
    · obtain ⟨n1, n2, n3⟩ := kn_next HK.out hu12 HHB.out (by rw [← HP.out]; exact ht)
      have HN := Lib.hid n2
      have j1 : (1 : Int) ≤ (q1 : Int) := by omega
      have j3 : (q1 : Int) - 1 = ((q1 - 1 : Nat) : Int) := by omega
      have j4 : (r1 : Int) + (a : Int) = ((r1 + a : Nat) : Int) := by omega
      have j6 : q1 - 1 < 18446744073709551616 := by omega
      have j7 : r1 + a < 18446744073709551616 := by omega
      have hqD1 : 4294967296 ≤ r1 + a → q1 - 1 = D1 := fun h => by rw [HD1.out, HYC.out.1]; exact kn_break n2 n3 h hc2
      have HQD1 := Lib.hid hqD1
      have hra1 : r1 < r1 + a := by omega
      generalize q1 - 1 = q4 at *
      generalize r1 + a = r4 at *
      have hg : (4294967296 : Int) ≤ (q1 : Int) ∨ (¬ (4294967296 : Int) ≤ (q1 : Int) ∧ 4294967296 * (r1 : Int) + (u1 : Int) < (P : Int)) := by omega
      clear n2 hqD1 ht
      by_cases hbr : 4294967296 ≤ r4
      · have hqD := HQD1.out hbr
        have j5 : (4294967296 : Int) ≤ (r4 : Int) := by omega
        subst hqD
        rcases hg with hg1 | ⟨hg1, hg2⟩
        all_goals
          go_wp2_with fail
          have HK2 := Lib.hid hk2
          go_loopw [18, 16] (fun q r W => ∃ q1 r1 : Nat, q = .int .u64 q1 ∧ r = .int .u64 r1 ∧ Kn R1 u0 a c q1 r1 ∧ r1 < 4294967296 ∧ W = wr) (fun _ r _ => 4294967296 - (intOf r).toNat)
          case atStart => exact ⟨Q2, R2, rfl, rfl, HK2.out, by have := HR2.out; omega, rfl⟩
          case round =>
            obtain ⟨q2, r2, rfl, rfl, hk, hr2, rfl⟩ := hrel
            have hq2 := hk.le
            have hqc2 : q2 * c ≤ 4294967297 * 4294967295 := Nat.mul_le_mul hq2 (by omega)
            have HK3 := Lib.hid hk
            clear hk HK2
            obtain ⟨S, hS⟩ : ∃ S, S = q2 * c := ⟨_, rfl⟩
            rw [← hS] at hqc2
            have hS4 : (q2 : Int) * (c : Int) = (S : Int) := by rw [hS, Int.natCast_mul]
            have HS := Lib.hid hS
            clear hS
            have hS5 : (S : Int) ≤ 18446744073709551615 := by omega
            have hS6 : (0 : Int) ≤ (S : Int) := by omega
            by_cases ht2 : 4294967296 ≤ q2 ∨ 4294967296 * r2 + u0 < S
            · obtain ⟨n1, n2, n3⟩ := kn_next HK3.out hu02 HRB.out (by rw [← HS.out]; exact ht2)
              have HN := Lib.hid n2
              have j1 : (1 : Int) ≤ (q2 : Int) := by omega
              have j3 : (q2 : Int) - 1 = ((q2 - 1 : Nat) : Int) := by omega
              have j4 : (r2 : Int) + (a : Int) = ((r2 + a : Nat) : Int) := by omega
              have j6 : q2 - 1 < 18446744073709551616 := by omega
              have j7 : r2 + a < 18446744073709551616 := by omega
              have hqD2 : 4294967296 ≤ r2 + a → q2 - 1 = D2 := fun h => by rw [HD2.out, HYC.out.1]; exact kn_break n2 n3 h hc2
              have HQD := Lib.hid hqD2
              have hra : r2 < r2 + a := by omega
              generalize q2 - 1 = q3 at *
              generalize r2 + a = r3 at *
              have hg : (4294967296 : Int) ≤ (q2 : Int) ∨ (¬ (4294967296 : Int) ≤ (q2 : Int) ∧ 4294967296 * (r2 : Int) + (u0 : Int) < (S : Int)) := by omega
              clear n2 hqD2 ht2
              by_cases hbr : 4294967296 ≤ r3
              · have hqD2 := HQD.out hbr
                have j5 : (4294967296 : Int) ≤ (r3 : Int) := by omega
                subst hqD2
                rcases hg with hg1 | ⟨hg1, hg2⟩
                all_goals
                  go_wp2_with fail
                  go_ret2
                  exact ⟨rfl, rfl⟩
              · have j5 : ¬ (4294967296 : Int) ≤ (r3 : Int) := by omega
                rcases hg with hg1 | ⟨hg1, hg2⟩
                all_goals
                  go_wp2_with fail
                  refine ⟨⟨q3, r3, rfl, rfl, HN.out, by omega, trivial⟩, ?_⟩
                  simp [intOf]; omega
            · have i9 : ¬ (4294967296 : Int) ≤ (q2 : Int) := by omega
              have i10 : ¬ 4294967296 * (r2 : Int) + (u0 : Int) < (S : Int) := by omega
              have hqD2 : q2 = D2 := by rw [HD2.out, HYC.out.1]; exact kn_end HK3.out (by have := HS.out; omega)
              clear ht2
              subst hqD2
              go_wp2_with fail
              go_ret2
              exact ⟨rfl, rfl⟩
      · have j5 : ¬ (4294967296 : Int) ≤ (r4 : Int) := by omega
        rcases hg with hg1 | ⟨hg1, hg2⟩
        all_goals
          go_wp2_with fail
          refine ⟨⟨q4, r4, rfl, rfl, HN.out, by omega, trivial⟩, ?_⟩
          simp [intOf]; omega
    · have i7 : ¬ (4294967296 : Int) ≤ (q1 : Int) := by omega
      have i8 : ¬ 4294967296 * (r1 : Int) + (u1 : Int) < (P : Int) := by omega
      have hqD : q1 = D1 := by rw [HD1.out, HYC.out.1]; exact kn_end HK.out (by have := HP.out; omega)
      clear ht
      subst hqD
      go_wp2_with fail
      have HK2 := Lib.hid hk2
      go_loopw [18, 16] (fun q r W => ∃ q1 r1 : Nat, q = .int .u64 q1 ∧ r = .int .u64 r1 ∧ Kn R1 u0 a c q1 r1 ∧ r1 < 4294967296 ∧ W = wr) (fun _ r _ => 4294967296 - (intOf r).toNat)
      case atStart => exact ⟨Q2, R2, rfl, rfl, HK2.out, by have := HR2.out; omega, rfl⟩
      case round =>
        obtain ⟨q2, r2, rfl, rfl, hk, hr2, rfl⟩ := hrel
        have hq2 := hk.le
        have hqc2 : q2 * c ≤ 4294967297 * 4294967295 := Nat.mul_le_mul hq2 (by omega)
        have HK3 := Lib.hid hk
        clear hk HK2
        obtain ⟨S, hS⟩ : ∃ S, S = q2 * c := ⟨_, rfl⟩
        rw [← hS] at hqc2
        have hS4 : (q2 : Int) * (c : Int) = (S : Int) := by rw [hS, Int.natCast_mul]
        have HS := Lib.hid hS
        clear hS
        have hS5 : (S : Int) ≤ 18446744073709551615 := by omega
        have hS6 : (0 : Int) ≤ (S : Int) := by omega
        by_cases ht2 : 4294967296 ≤ q2 ∨ 4294967296 * r2 + u0 < S
        · obtain ⟨n1, n2, n3⟩ := kn_next HK3.out hu02 HRB.out (by rw [← HS.out]; exact ht2)
          have HN := Lib.hid n2
          have j1 : (1 : Int) ≤ (q2 : Int) := by omega
          have j3 : (q2 : Int) - 1 = ((q2 - 1 : Nat) : Int) := by omega
          have j4 : (r2 : Int) + (a : Int) = ((r2 + a : Nat) : Int) := by omega
          have j6 : q2 - 1 < 18446744073709551616 := by omega
          have j7 : r2 + a < 18446744073709551616 := by omega
          have hqD2 : 4294967296 ≤ r2 + a → q2 - 1 = D2 := fun h => by rw [HD2.out, HYC.out.1]; exact kn_break n2 n3 h hc2
          have HQD := Lib.hid hqD2
          have hra : r2 < r2 + a := by omega
          generalize q2 - 1 = q3 at *
          generalize r2 + a = r3 at *
          have hg : (4294967296 : Int) ≤ (q2 : Int) ∨ (¬ (4294967296 : Int) ≤ (q2 : Int) ∧ 4294967296 * (r2 : Int) + (u0 : Int) < (S : Int)) := by omega
          clear n2 hqD2 ht2
          by_cases hbr : 4294967296 ≤ r3
          · have hqD2 := HQD.out hbr
            have j5 : (4294967296 : Int) ≤ (r3 : Int) := by omega
            subst hqD2
            rcases hg with hg1 | ⟨hg1, hg2⟩
            all_goals
              go_wp2_with fail
              go_ret2
              exact ⟨rfl, rfl⟩
          · have j5 : ¬ (4294967296 : Int) ≤ (r3 : Int) := by omega
            rcases hg with hg1 | ⟨hg1, hg2⟩
            all_goals
              go_wp2_with fail
              refine ⟨⟨q3, r3, rfl, rfl, HN.out, by omega, trivial⟩, ?_⟩
              simp [intOf]; omega
        · have i9 : ¬ (4294967296 : Int) ≤ (q2 : Int) := by omega
          have i10 : ¬ 4294967296 * (r2 : Int) + (u0 : Int) < (S : Int) := by omega
          have hqD2 : q2 = D2 := by rw [HD2.out, HYC.out.1]; exact kn_end HK3.out (by have := HS.out; omega)
          clear ht2
          subst hqD2
          go_wp2_with fail
          go_ret2
          exact ⟨rfl, rfl⟩
end Go.Proofs.Ytlgnkgcofdjamaa
