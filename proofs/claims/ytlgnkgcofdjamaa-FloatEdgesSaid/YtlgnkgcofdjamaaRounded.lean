/-
  The document's own rounding: the nearest real.
-/
import Derived.Test.YtlgnkgcofdjamaaRefA
import Derived.Deep.QuietTactic
import Derived.BigQuiet
import Derived.WalkSmall
namespace Go.Proofs.Ytlgnkgcofdjamaa
open Go.RowKit

/-- An exact number of the document's. -/
def EX (neg : Bool) (hi lo : Nat) (E : Int) (more : Bool) : Array Value := #[.bool neg, .int .u64 hi, .int .u64 lo, .int .i64 E, .bool more]
theorem len_log (N : Nat) (h : N ≠ 0) : ((len N : Nat) : Int) - 53 = (N.log2 : Int) + 1 - 53 := by
  unfold len; rw [if_neg h]; omega
theorem shl52 (e : Nat) : ((e * 2 ^ 52 : Nat) : Int) = (e : Int) * 4503599627370496 := by
  have h : (2 : Nat) ^ 52 = 4503599627370496 := rfl
  rw [h]
  omega
/-- What is kept at last. -/
theorem kept_ex (neg : Bool) (N : Nat) (E : Int) (more : Bool) (h0 : N ≠ 0) (hm : more = true → 2 ^ 53 ≤ N) : ∃ K : Nat, near neg N E more = asm neg K (E + dropOf N E) ∧ K ≤ 2 ^ 53 ∧ (K < 2 ^ 52 → E + dropOf N E = -1074) ∧ (dropOf N E ≤ 0 → K = N * 2 ^ (-dropOf N E).toNat ∧ K < 2 ^ 53) ∧ (∀ D : Nat, dropOf N E = D + 1 → K = keptD N D more) := by
  by_cases hd : dropOf N E ≤ 0
  · have hf : more = false := by
      cases more with
      | false => rfl
      | true => have := more_drops N E (hm rfl); omega
    subst hf
    have hl := left_lt N E hd
    exact ⟨N * 2 ^ (-dropOf N E).toNat, near_left neg N E h0 hd, Nat.le_of_lt hl, left_low N E h0 hd, fun _ => ⟨rfl, hl⟩, fun D e => by omega⟩
  · obtain ⟨D, hD⟩ : ∃ D : Nat, dropOf N E = D + 1 := ⟨(dropOf N E - 1).toNat, by omega⟩
    refine ⟨keptD N D more, near_right neg N E more h0 hm D hD, kept_le N D E more hD, kept_low N D E more h0 hD, fun h => absurd h hd, fun D' e => ?_⟩
    obtain rfl : D = D' := by omega
    rfl
/-- The exact number lies in block b. -/
structure AtX (w : World) (b : Nat) (neg : Bool) (hi lo : Nat) (E : Int) (more : Bool) (W : World) : Prop where
  c0 : W.cell? ⟨b, 0, none⟩ = some (.bool neg)
  c1 : W.cell? ⟨b, 1, none⟩ = some (.int .u64 hi)
  c2 : W.cell? ⟨b, 2, none⟩ = some (.int .u64 lo)
  c3 : W.cell? ⟨b, 3, none⟩ = some (.int .i64 E)
  c4 : W.cell? ⟨b, 4, none⟩ = some (.bool more)
  bel : Below w.heap.size w W
theorem AtX.drew {w : World} {b : Nat} {neg : Bool} {hi lo : Nat} {E : Int} {more : Bool} {W : World} (h : AtX w b neg hi lo E more W) : AtX w b neg hi lo E more W.drew :=
  ⟨h.c0, h.c1, h.c2, h.c3, h.c4, h.bel.drew⟩
theorem AtX.drewN {w : World} {b : Nat} {neg : Bool} {hi lo : Nat} {E : Int} {more : Bool} {W : World} (h : AtX w b neg hi lo E more W) (n : Nat) : AtX w b neg hi lo E more (W.drewN n) :=
  ⟨h.c0, h.c1, h.c2, h.c3, h.c4, below_drewN h.bel n⟩
theorem AtX.new (w : World) (neg : Bool) (hi lo : Nat) (E : Int) (more : Bool) : AtX w w.heap.size neg hi lo E more (w.alloc (.cells #[.bool neg, .int .u64 hi, .int .u64 lo, .int .i64 E, .bool more] 41)) :=
  ⟨by simp [go_sem], by simp [go_sem], by simp [go_sem], by simp [go_sem], by simp [go_sem], (Below.refl _ _).alloc (Nat.le_refl _) _⟩
set_option maxRecDepth 100000 in
set_option maxHeartbeats 2000000 in
theorem rounded_any (w : World) (neg : Bool) (hi lo : Nat) (E : Int) (more : Bool) (h1 : hi < 2 ^ 64) (h2 : lo < 2 ^ 64) (hE1 : -10000 ≤ E) (hE2 : E ≤ 10000) (h0 : W128 hi lo ≠ 0) (hm : more = true → 2 ^ 53 ≤ W128 hi lo) :
    Calls Try.prog 46 #[.agg #[.bool neg, .int .u64 hi, .int .u64 lo, .int .i64 E, .bool more]] w fun e w' => e = .returned (.int .u64 (near neg (W128 hi lo) E more)) ∧ Below w.heap.size w w' := by
  obtain ⟨K, k1, k2, k3, k4, k5⟩ := kept_ex neg (W128 hi lo) E more h0 hm
  have hlast := last_low (W128 hi lo) E
  have hlen := fun W => rlength_any W hi lo h1 h2
  have hll := len_log (W128 hi lo) h0
  have hmax : dropOf (W128 hi lo) E = max (((len (W128 hi lo) : Nat) : Int) - 53) (-1074 - E) := by rw [hll]; rfl
  have hlen128 : len (W128 hi lo) ≤ 128 := by
    unfold len
    rw [if_neg h0]
    have : (W128 hi lo).log2 < 128 := (Nat.log2_lt h0).2 (by unfold W128; omega)
    omega
  have hnz : hi = 0 → lo ≠ 0 := fun h => by subst h; unfold W128 at h0; omega
  rw [k1]
  obtain ⟨d, hd⟩ : ∃ d, d = dropOf (W128 hi lo) E := ⟨_, rfl⟩
  obtain ⟨n, hn⟩ : ∃ n, n = len (W128 hi lo) := ⟨_, rfl⟩
  rw [← hd] at k3 k4 k5 hlast hmax ⊢
  rw [← hn] at hlen128 hmax
  simp only [← hn] at hlen
  have hdrop : dropOf (W128 hi lo) E = d := hd.symm
  obtain ⟨L, hL⟩ : ∃ L, L = E + d := ⟨_, rfl⟩
  rw [← hL] at k3 hlast ⊢
  have hL2 : E + d = L := hL.symm
  clear hd hn hll k1 hL
  have hat := AtX.new w neg hi lo E more
  have HK := Lib.hid (And.intro k2 (And.intro k3 (And.intro k4 k5)))
  have HL := Lib.hid hlen
  have HN := Lib.hid hnz
  have e1 : IntKind.i64.wrap ((n : Int) - 53) = (n : Int) - 53 := by rw [IntKind.wrap_i64]; omega
  have e2 : IntKind.i64.wrap (-1074 - E) = -1074 - E := by rw [IntKind.wrap_i64]; omega
  have hd1 : -53 ≤ d ∧ d ≤ 9000 := by omega
  have HDR := Lib.hid hdrop
  clear k2 k3 k4 k5 hlen h0 hm hnz hdrop
  go_enter Try.func46, Try.ntmps46
  go_upto_region 1 with fail
  generalize w.alloc (.cells #[.bool neg, .int .u64 hi, .int .u64 lo, .int .i64 E, .bool more] 41) = W at hat ⊢
  have HAT := Lib.hid hat
  obtain ⟨c0, c1, c2, c3, c4, _⟩ := hat
  go_cut [24] from 114 (fun v wr => v = .bool false ∧ wr = W)
  case first =>
    by_cases a : hi = 0
    · have b := HN.out a
      have i1 : ((hi : Int) == 0) = true := by simp [a]
      have i2 : ((lo : Int) == 0) = false := by rw [beq_eq_false_iff_ne]; omega
      go_wp2_with fail
      go_meet
      case rel => exact ⟨rfl, rfl⟩
    · have i1 : ((hi : Int) == 0) = false := by rw [beq_eq_false_iff_ne]; omega
      go_wp2_with fail
      go_meet
      case rel => exact ⟨rfl, rfl⟩
  case rest =>
    obtain ⟨rfl, rfl⟩ := hcut
    go_upto_region 3 with fail
    have HAT2 := HAT
    go_cut [3] from 114 (fun v wr => v = .int .i64 d ∧ AtX w w.heap.size neg hi lo E more wr)
    case first =>
      go_region_with (first
        | ((with_reducible refine (HL.out _).mono ?_); rintro e w2 ⟨rfl, rfl⟩))
      all_goals
        go_wp2_with fail
        go_meet
        case rel =>
          refine ⟨by rw [← hmax], ?_⟩
          first
            | exact HAT.out.drew
            | exact HAT.out.drew.drew
            | exact HAT.out
    case rest =>
      obtain ⟨rfl, hat⟩ := hcut
      clear c0 c1 c2 c3 c4 HAT2
      have HAT := Lib.hid hat
      obtain ⟨c0, c1, c2, c3, c4, _⟩ := hat
      clear hmax e1 e2
      go_upto_if 39 with fail
      obtain ⟨z, hz⟩ : ∃ z, z = decide (d ≤ 0) := ⟨_, rfl⟩
      rw [← hz]
      have HZ := Lib.hid hz
      clear hz
      go_cut [4, 5] from 114 (fun v u wr => ∃ (m : Nat) (up : Bool), v = .int .u64 m ∧ u = .bool up ∧ m + up.toNat = K ∧ AtX w w.heap.size neg hi lo E more wr)
      case first =>
        cases z
        case true =>
          have hd : d ≤ 0 := of_decide_eq_true HZ.out.symm
          obtain ⟨kx, ky⟩ := HK.out.2.2.1 hd
          obtain ⟨s, hs⟩ : ∃ s : Nat, d = -(s : Int) := ⟨(-d).toNat, by omega⟩
          have hs2 : s ≤ 127 := by omega
          have hsd : (-d).toNat = s := by omega
          rw [hsd] at kx
          subst hs
          have hlt := fun W => rleft_any W hi lo s h2 hs2 (by rw [← kx]; omega)
          simp only [← kx, Nat.mod_eq_of_lt (show K < 18446744073709551616 by omega)] at hlt
          have HLT := Lib.hid hlt
          clear hlt kx hsd
          go_wp2_with fail
          refine (HLT.out _).mono ?_
          rintro e w2 ⟨rfl, rfl⟩
          go_wp2_with fail
          go_meet
          case rel => exact ⟨K, false, rfl, rfl, rfl, HAT.out⟩
        case false =>
          have hd : ¬ d ≤ 0 := of_decide_eq_false HZ.out.symm
          obtain ⟨D, hD⟩ : ∃ D : Nat, d = D + 1 := ⟨(d - 1).toNat, by omega⟩
          have kx := HK.out.2.2.2 D hD
          subst hD
          have hrt := fun W => rright_any W hi lo D h1 h2
          have hY := shift_lt (W128 hi lo) D E HDR.out
          simp only [Nat.mod_eq_of_lt (show W128 hi lo / 2 ^ D < 18446744073709551616 by omega)] at hrt
          unfold keptD at kx
          generalize decide (W128 hi lo % 2 ^ D ≠ 0) = l at hrt kx
          generalize W128 hi lo / 2 ^ D = Y at hrt kx hY
          have HRT := Lib.hid hrt
          have HY := Lib.hid (And.intro hY kx)
          have a1 := and_nat Y 1 (by omega) (by decide)
          rw [Nat.and_one_is_mod] at a1
          have a2 := and_nat (Y / 2) 1 (by omega) (by decide)
          rw [Nat.and_one_is_mod] at a2
          have i10 : (bits .and .u64 (Y : Int) 1 == 1) = decide (Y % 2 = 1) := by
            rw [show (1 : Int) = ((1 : Nat) : Int) from rfl, a1, Bool.eq_iff_iff, beq_iff_eq, decide_eq_true_eq]; omega
          have i11 : (bits .and .u64 ((Y : Int) / 2) 1 == 1) = decide (Y / 2 % 2 = 1) := by
            rw [show (Y : Int) / 2 = ((Y / 2 : Nat) : Int) by omega, show (1 : Int) = ((1 : Nat) : Int) from rfl, a2, Bool.eq_iff_iff, beq_iff_eq, decide_eq_true_eq]; omega
          obtain ⟨p, hp⟩ : ∃ p, p = decide (Y % 2 = 1) := ⟨_, rfl⟩
          obtain ⟨q, hq⟩ : ∃ q, q = decide (Y / 2 % 2 = 1) := ⟨_, rfl⟩
          rw [← hp] at i10 kx
          rw [← hq] at i11 kx
          clear a1 a2
          have HKX := Lib.hid kx
          have hD2 : (D : Int) ≤ 9000 := by omega
          have hD3 : (0 : Int) ≤ (D : Int) := by omega
          have i1 : ¬ (D : Int) + 1 ≤ 0 := by omega
          clear hrt kx hp hq
          go_wp2_with fail
          refine (HRT.out _).mono ?_
          rintro e w2 ⟨rfl, rfl⟩
          go_upto_region 10 with fail
          go_cut [9, 10] from 114 (fun v u wr => v = .bool p ∧ u = .bool (l || more) ∧ AtX w w.heap.size neg hi lo E more wr)
          case first =>
            cases l
            · go_quiet (fail)
              go_wp2_with fail
              go_meet
              case rel => exact ⟨rfl, rfl, HAT.out.drewN _⟩
            · go_quiet (fail)
              go_wp2_with fail
              go_meet
              case rel => exact ⟨rfl, rfl, HAT.out.drewN _⟩
          case rest =>
            obtain ⟨rfl, rfl, hat2⟩ := hcut
            obtain ⟨lm, hlm⟩ : ∃ lm, lm = (l || more) := ⟨_, rfl⟩
            rw [← hlm] at HKX ⊢
            have HAT2 := Lib.hid hat2
            clear hat2 hlm c0 c1 c2 c3 c4 i10
            go_upto_region 12 with fail
            cases p <;> cases lm <;> cases q
            all_goals
              go_wp2_with fail
              go_meet
              case rel => exact ⟨Y / 2, _, rfl, rfl, HKX.out.symm, HAT2.out⟩
      case rest =>
        obtain ⟨m, up, rfl, rfl, hmu, hat2⟩ := hcut
        clear c0 c1 c2 c3 c4 HZ HL HN
        have hK := HK.out.1
        have hlow := HK.out.2.1
        have HB := Lib.hid hat2.bel
        obtain ⟨c0, _, _, c3, _, _⟩ := hat2
        have hL3 : L ≤ 20000 := by omega
        have hm53 : m ≤ 2 ^ 53 := by omega
        clear HK HDR
        go_upto_if 85 with fail
        go_cut [4] from 114 (fun v wr => v = .int .u64 K ∧ wr = wc)
        case first =>
          cases up
          · have hmk : m = K := by simpa using hmu
            subst hmk
            go_wp2_with fail
            go_meet
            case rel => exact ⟨rfl, rfl⟩
          · have hmk : (m : Int) + 1 = (K : Int) := by have : m + 1 = K := by simpa using hmu
                                                       omega
            have hw : IntKind.u64.wrap ((m : Int) + 1) = (K : Int) := by rw [hmk, wrap_nat K (by omega)]
            clear hmk
            go_wp2_with fail
            go_meet
            case rel => exact ⟨rfl, rfl⟩
        case rest =>
          obtain ⟨rfl, rfl⟩ := hcut
          have hsi : ∀ W, Calls Try.prog 50 #[.bool neg, .int .u64 9218868437227405312] W fun e w' => e = .returned (.int .u64 (mk neg inf)) ∧ W = w' := fun W => signed_any W neg 9218868437227405312 (by decide)
          have HSI := Lib.hid hsi
          have HSG := Lib.hid (fun W r hr => signed_any W neg r hr)
          clear hsi
          go_upto_if 89 with fail
          obtain ⟨y, hy⟩ : ∃ y, y = ((K : Int) == 9007199254740992) := ⟨_, rfl⟩
          rw [← hy]
          have HY := Lib.hid hy
          clear hy
          go_cut [4, 11] from 114 (fun v u wr => ∃ (k : Nat) (l : Int), v = .int .u64 k ∧ u = .int .i64 l ∧ wr = wc ∧ asm neg K L = asm neg k l ∧ k < 2 ^ 53 ∧ (k < 2 ^ 52 → l = -1074) ∧ -1074 ≤ l ∧ l ≤ 20001)
          case first =>
            cases y
            case true =>
              have k53 : K = 2 ^ 53 := by
                have := HY.out.symm
                rw [beq_iff_eq] at this
                omega
              have e9 : IntKind.i64.wrap (L + 1) = L + 1 := by rw [IntKind.wrap_i64]; omega
              go_wp2_with fail
              go_meet
              case rel => exact ⟨4503599627370496, L + 1, rfl, rfl, rfl, by rw [k53]; exact asm_carry neg L hlast, by decide, fun h => absurd h (by decide), by omega, by omega⟩
            case false =>
              have k53 : K ≠ 2 ^ 53 := by
                have := HY.out.symm
                rw [beq_eq_false_iff_ne] at this
                omega
              go_wp2_with fail
              go_meet
              case rel => exact ⟨K, L, rfl, rfl, rfl, rfl, by omega, hlow, hlast, by omega⟩
          case rest =>
            obtain ⟨k, l, rfl, rfl, rfl, hasm, hk, hkl, hl1, hl2⟩ := hcut
            have HASM := Lib.hid hasm
            clear hasm hK hlow hlast hL3 hL2 hmu hm53 HY
            by_cases k52 : k < 2 ^ 52
            · have i6 : decide ((k : Int) < 4503599627370496) = true := by simp; omega
              have HSK := Lib.hid (HSG.out wc k (by omega))
              have HQ := Lib.hid (asm_low neg k l k52 (hkl k52))
              clear hkl
              go_wp2_with fail
              refine HSK.out.mono ?_
              rintro e w3 ⟨rfl, rfl⟩
              go_wp2_with fail
              go_ret
              exact ⟨by rw [HASM.out, HQ.out]; rfl, HB.out⟩
            · have i6 : decide ((k : Int) < 4503599627370496) = false := by simp; omega
              have i8 : ¬ (k : Int) < 4503599627370496 := by omega
              by_cases kl : 2047 ≤ l + 1075
              · have HQ := Lib.hid (asm_inf neg k l (by omega) kl)
                clear hkl
                go_wp2_with fail
                refine (HSI.out wc).mono ?_
                rintro e w3 ⟨rfl, rfl⟩
                go_wp2_with fail
                go_ret
                exact ⟨by rw [HASM.out, HQ.out]; rfl, HB.out⟩
              · obtain ⟨ee, he⟩ : ∃ ee : Nat, (ee : Int) = l + 1075 := ⟨(l + 1075).toNat, by omega⟩
                obtain ⟨q1, q2, q3⟩ := asm_mid neg k l (by omega) hk hl1 (by omega) ee he
                have HQ := Lib.hid q1
                obtain rfl : l = (ee : Int) - 1075 := by omega
                have i9 : ¬ (2047 : Int) ≤ (ee : Int) := by omega
                have hand : bits .and .u64 (k : Int) 4503599627370495 = ((k % 2 ^ 52 : Nat) : Int) := by
                  rw [show (4503599627370495 : Int) = ((2 ^ 52 - 1 : Nat) : Int) from rfl, and_nat _ _ (by omega) (by decide), Nat.and_two_pow_sub_one_eq_mod]
                have hor := or_parts ee 52 (k % 2 ^ 52) (Nat.mod_lt _ (by decide)) (Nat.lt_of_lt_of_le ((Nat.mul_lt_mul_right (by decide)).2 q3) (by decide)) (by decide)
                have HSK := Lib.hid (HSG.out wc (ee * 2 ^ 52 + k % 2 ^ 52) (by unfold inf at q2; omega))
                generalize ee * 2 ^ 52 + k % 2 ^ 52 = F at hor HSK HQ q2
                generalize k % 2 ^ 52 = f at hand hor
                have hor2 : bits .or .u64 ((ee : Int) * 4503599627370496) (f : Int) = (F : Int) := by
                  have := shl52 ee
                  rw [← this]; exact hor
                have hwr : IntKind.u64.wrap ((ee : Int) * 4503599627370496) = (ee : Int) * 4503599627370496 := by rw [IntKind.wrap_u64]; omega
                clear hkl hor he q1
                go_wp2_with fail
                refine HSK.out.mono ?_
                rintro e w3 ⟨rfl, rfl⟩
                go_wp2_with fail
                go_ret
                exact ⟨by rw [HASM.out, HQ.out]; rfl, HB.out⟩
end Go.Proofs.Ytlgnkgcofdjamaa
