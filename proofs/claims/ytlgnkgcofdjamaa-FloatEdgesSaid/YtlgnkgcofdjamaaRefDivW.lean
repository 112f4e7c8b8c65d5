/-
  The document's own Div.
-/
import Derived.Test.YtlgnkgcofdjamaaRefDiv
import Derived.Deep.QuietTactic
import Derived.BigQuiet
import Derived.WalkSmall
namespace Go.Proofs.Ytlgnkgcofdjamaa
open Go.RowKit

theorem w128_low (Q : Nat) : W128 0 Q = Q := by
  unfold W128
  rw [Nat.zero_mul, Nat.zero_add]
/-- A number shifted up to its 64th bit. -/
theorem lz_mg (a : Nat) (h : mg a ≠ 0) : len (mg a) ≤ 53 ∧ 1 ≤ len (mg a) ∧ 2 ^ 63 ≤ mg a * 2 ^ (64 - len (mg a)) ∧ mg a * 2 ^ (64 - len (mg a)) < 2 ^ 64 := by
  have hl := (Nat.log2_lt h).2 (mg_lt a)
  have e : len (mg a) = (mg a).log2 + 1 := by unfold len; rw [if_neg h]
  rw [e]
  have h1 := Nat.log2_self_le h
  have h2 : mg a < 2 ^ ((mg a).log2 + 1) := Nat.lt_log2_self
  have hp : 0 < 2 ^ (64 - ((mg a).log2 + 1)) := Nat.two_pow_pos _
  refine ⟨by omega, by omega, ?_, ?_⟩
  · have := Nat.mul_le_mul_right (2 ^ (64 - ((mg a).log2 + 1))) h1
    rw [← Nat.pow_add] at this
    exact Nat.le_trans (Nat.pow_le_pow_right (by decide) (by omega)) this
  · have := (Nat.mul_lt_mul_right hp).2 h2
    rw [← Nat.pow_add] at this
    exact Nat.lt_of_lt_of_le this (Nat.pow_le_pow_right (by decide) (by omega))
set_option maxRecDepth 100000 in
set_option maxHeartbeats 4000000 in
theorem rdiv_edge (w : World) (a b : Nat) (ha : a < 2 ^ 64) (hb : b < 2 ^ 64) (h : isNone a ∨ isNone b ∨ rg a = inf ∨ rg b = inf ∨ rg a = 0 ∨ rg b = 0) : Calls Try.prog 23 #[.int .u64 a, .int .u64 b] w fun e w' => e = .returned (.int .u64 (divB a b)) ∧ Below w.heap.size w w' := by
  have hna := rnone_any w a ha
  have hnb := rnone_any w b hb
  have hs := sign_ne a b ha hb
  have hra := andNot_sign a ha
  have hrb := andNot_sign b hb
  have ia := beq_inf a
  have ib := beq_inf b
  have za := beq_zero a
  have zb := beq_zero b
  by_cases na : isNone a
  · rw [decide_eq_true na] at hna
    have hv : divB a b = NAN := by unfold divB; rw [div_none a b (.inl na)]; rfl
    rw [hv]
    clear ia ib za zb hs na hv h
    generalize rg a = p at *
    generalize rg b = q at *
    go_enter Try.func23, Try.ntmps23
    go_wp2_with (first | ((with_reducible refine hna.mono ?_); rintro e w' ⟨rfl, rfl⟩))
    go_ret
    exact ⟨rfl, Below.refl _ _⟩
  by_cases nb : isNone b
  · rw [decide_eq_false na] at hna
    rw [decide_eq_true nb] at hnb
    have hv : divB a b = NAN := by unfold divB; rw [div_none a b (.inr nb)]; rfl
    rw [hv]
    clear ia ib za zb hs na nb hv h
    generalize rg a = p at *
    generalize rg b = q at *
    go_enter Try.func23, Try.ntmps23
    go_wp2_with (first | ((with_reducible refine hna.mono ?_); rintro e w' ⟨rfl, rfl⟩) | ((with_reducible refine hnb.mono ?_); rintro e w' ⟨rfl, rfl⟩))
    go_ret
    exact ⟨rfl, Below.refl _ _⟩
  rw [decide_eq_false na] at hna
  rw [decide_eq_false nb] at hnb
  have la : rg a ≤ inf := by unfold isNone at na; omega
  have lb : rg b ≤ inf := by unfold isNone at nb; omega
  have h' := (h.resolve_left na).resolve_left nb
  have h0 : 0 < inf := by decide
  have hv := divB_edge a b la lb (by omega)
  have HSI := Lib.hid (show ∀ W, Calls Try.prog 50 #[.bool (sg a ^^ sg b), .int .u64 9218868437227405312] W fun e w' => e = .returned (.int .u64 (mk (sg a ^^ sg b) inf)) ∧ W = w' from fun W => signed_any W _ 9218868437227405312 (by decide))
  have HSZ := Lib.hid (show ∀ W, Calls Try.prog 50 #[.bool (sg a ^^ sg b), .int .u64 0] W fun e w' => e = .returned (.int .u64 (mk (sg a ^^ sg b) 0)) ∧ W = w' from fun W => signed_any W _ 0 (by decide))
  have cs : (decide (rg a = inf) = true ∧ decide (rg b = inf) = true ∧ divB a b = NAN) ∨ (decide (rg a = inf) = false ∧ decide (rg a = 0) = true ∧ decide (rg b = 0) = true ∧ divB a b = NAN) ∨
      (decide (rg a = inf) = true ∧ decide (rg b = inf) = false ∧ decide (rg a = 0) = false ∧ divB a b = mk (sg a ^^ sg b) inf) ∨ (decide (rg a = inf) = false ∧ decide (rg a = 0) = false ∧ decide (rg b = 0) = true ∧ divB a b = mk (sg a ^^ sg b) inf) ∨
      (decide (rg a = inf) = false ∧ decide (rg b = 0) = false ∧ (decide (rg b = inf) = true ∨ decide (rg b = inf) = false ∧ decide (rg a = 0) = true) ∧ divB a b = mk (sg a ^^ sg b) 0) := by
    by_cases x1 : rg a = inf
    · by_cases x2 : rg b = inf
      · rw [if_pos (.inl ⟨x1, x2⟩)] at hv
        exact .inl ⟨by simp [x1], by simp [x2], hv⟩
      · rw [if_neg (by omega), if_pos (.inl x1)] at hv
        exact .inr (.inr (.inl ⟨by simp [x1], by simp [x2], by simp; omega, hv⟩))
    · by_cases x3 : rg a = 0
      · by_cases x4 : rg b = 0
        · rw [if_pos (.inr ⟨x3, x4⟩)] at hv
          exact .inr (.inl ⟨by simp [x1], by simp [x3], by simp [x4], hv⟩)
        · rw [if_neg (by omega), if_neg (by omega)] at hv
          refine .inr (.inr (.inr (.inr ⟨by simp [x1], by simp [x4], ?_, hv⟩)))
          by_cases x2 : rg b = inf
          · exact .inl (by simp [x2])
          · exact .inr ⟨by simp [x2], by simp [x3]⟩
      · by_cases x4 : rg b = 0
        · rw [if_neg (by omega), if_pos (.inr x4)] at hv
          exact .inr (.inr (.inr (.inl ⟨by simp [x1], by simp [x3], by simp [x4], hv⟩)))
        · have x2 : rg b = inf := by omega
          rw [if_neg (by omega), if_neg (by omega)] at hv
          exact .inr (.inr (.inr (.inr ⟨by simp [x1], by simp [x4], .inl (by simp [x2]), hv⟩)))
  clear hv h h' la lb na nb h0
  generalize decide (rg a = inf) = x1 at *
  generalize decide (rg b = inf) = x2 at *
  generalize decide (rg a = 0) = x3 at *
  generalize decide (rg b = 0) = x4 at *
  generalize (sg a ^^ sg b) = s at *
  generalize divB a b = v at *
  generalize rg a = p at *
  generalize rg b = q at *
  rcases cs with ⟨rfl, rfl, rfl⟩ | ⟨rfl, rfl, rfl, rfl⟩ | ⟨rfl, rfl, rfl, rfl⟩ | ⟨rfl, rfl, rfl, rfl⟩ | ⟨rfl, rfl, rfl | ⟨rfl, rfl⟩, rfl⟩
  all_goals
    go_enter Try.func23, Try.ntmps23
    go_wp2_with (first | ((with_reducible refine hna.mono ?_); rintro e w' ⟨rfl, rfl⟩) | ((with_reducible refine hnb.mono ?_); rintro e w' ⟨rfl, rfl⟩) | ((with_reducible refine (HSI.out _).mono ?_); rintro e w' ⟨rfl, rfl⟩) | ((with_reducible refine (HSZ.out _).mono ?_); rintro e w' ⟨rfl, rfl⟩))
  all_goals
    go_ret
    exact ⟨rfl, Below.refl _ _⟩
set_option maxRecDepth 100000 in
set_option maxHeartbeats 4000000 in
theorem rdiv_fin (w : World) (a b : Nat) (ha : a < 2 ^ 64) (hb : b < 2 ^ 64) (fa : rg a < inf) (fb : rg b < inf) (za : rg a ≠ 0) (zb : rg b ≠ 0) : Calls Try.prog 23 #[.int .u64 a, .int .u64 b] w fun e w' => e = .returned (.int .u64 (divB a b)) ∧ Below w.heap.size w w' := by
  have hna := rnone_any w a ha
  have hnb := rnone_any w b hb
  rw [decide_eq_false (by unfold isNone; omega)] at hna hnb
  have hs := sign_ne a b ha hb
  have hra := andNot_sign a ha
  have hrb := andNot_sign b hb
  have ia := beq_inf a
  have ib := beq_inf b
  have ja := beq_zero a
  have jb := beq_zero b
  rw [decide_eq_false (by omega)] at ia ib ja jb
  obtain ⟨p1, p2, p3⟩ := open_bounds a fa
  obtain ⟨q1, q2, q3⟩ := open_bounds b fb
  have HOA := Lib.hid (fun W => open_any W a ha fa)
  have HOB := Lib.hid (fun W => open_any W b hb fb)
  have ma0 : mg a ≠ 0 := fun h => za ((mg_zero a).1 h)
  have mb0 : mg b ≠ 0 := fun h => zb ((mg_zero b).1 h)
  obtain ⟨la1, la2, la3, la4⟩ := lz_mg a ma0
  obtain ⟨lb1, lb2, lb3, lb4⟩ := lz_mg b mb0
  obtain ⟨i, hi⟩ : ∃ i, i = 64 - len (mg a) := ⟨_, rfl⟩
  obtain ⟨k, hk⟩ : ∃ k, k = 64 - len (mg b) := ⟨_, rfl⟩
  rw [← hi] at la3 la4
  rw [← hk] at lb3 lb4
  have hza := fun W => Try.bits_LeadingZeros64 (mg a : Int) W (by omega) (by omega)
  have hzb := fun W => Try.bits_LeadingZeros64 (mg b : Int) W (by omega) (by omega)
  simp only [Int.toNat_natCast, bitLen_len (mg a) (by omega), show (64 : Int) - (len (mg a) : Nat) = (i : Int) by omega] at hza
  simp only [Int.toNat_natCast, bitLen_len (mg b) (by omega), show (64 : Int) - (len (mg b) : Nat) = (k : Int) by omega] at hzb
  have HZA := Lib.hid hza
  have HZB := Lib.hid hzb
  have hnear := div_near a b fa fb ma0 mb0 i k la3 lb4 (by omega)
  have hwa : IntKind.u64.wrap ((mg a : Int) * 2 ^ i) = ((mg a * 2 ^ i : Nat) : Int) := by
    have : ((mg a : Int) * 2 ^ i) = ((mg a * 2 ^ i : Nat) : Int) := by simp
    rw [this, wrap_nat _ la4]
  have hwb : IntKind.u64.wrap ((mg b : Int) * 2 ^ k) = ((mg b * 2 ^ k : Nat) : Int) := by
    have : ((mg b : Int) * 2 ^ k) = ((mg b * 2 ^ k : Nat) : Int) := by simp
    rw [this, wrap_nat _ lb4]
  generalize mg a * 2 ^ i = n at *
  generalize mg b * 2 ^ k = m at *
  obtain ⟨H, hH⟩ : ∃ H, H = n / 2 := ⟨_, rfl⟩
  obtain ⟨L, hL⟩ : ∃ L, L = n % 2 * 9223372036854775808 := ⟨_, rfl⟩
  have hdv : n * 2 ^ 63 = H * 18446744073709551616 + L := by omega
  have hd := fun W => div64_any W H L m (by omega) (by omega) lb3 lb4 (by omega)
  rw [hdv] at hnear
  have hqb : 2 ^ 53 ≤ (H * 18446744073709551616 + L) / m := by
    rw [Nat.le_div_iff_mul_le (by omega)]
    omega
  have hql : (H * 18446744073709551616 + L) / m < 2 ^ 64 := by
    rw [Nat.div_lt_iff_lt_mul (by omega)]
    omega
  obtain ⟨Q, hQ⟩ : ∃ Q, Q = (H * 18446744073709551616 + L) / m := ⟨_, rfl⟩
  obtain ⟨R, hR⟩ : ∃ R, R = (H * 18446744073709551616 + L) % m := ⟨_, rfl⟩
  rw [← hQ] at hnear hqb hql
  rw [← hR] at hnear
  simp only [← hQ, ← hR] at hd
  have hsh : IntKind.u64.wrap ((n : Int) * 9223372036854775808) = (L : Int) := by rw [IntKind.wrap_u64]; omega
  have hh : (n : Int) / 2 = (H : Int) := by omega
  clear hH hL hQ hR
  have hbn := bne_int R
  have hrd := fun W => rounded_all W (sg a ^^ sg b) 0 Q (pl a - i - 63 - (pl b - k)) (decide (R ≠ 0)) (by decide) hql (by omega) (by omega) (fun _ => by rw [w128_low]; exact hqb)
  have hWQ := w128_low Q
  simp only [hWQ, ← hnear, Int.natCast_zero] at hrd
  have HD := Lib.hid hd
  have HRD := Lib.hid hrd
  have hi63 : (i : Int) ≤ 63 := by omega
  have hk63 : (k : Int) ≤ 63 := by omega
  clear hd hrd hnear hWQ hqb hql hdv la1 la2 la3 la4 lb1 lb2 lb3 lb4 hi hk hza hzb ma0 mb0 za zb fa fb
  generalize decide (R ≠ 0) = mo at *
  generalize divB a b = v at *
  generalize (sg a ^^ sg b) = s at *
  generalize sg a = sa at *
  generalize sg b = sb at *
  generalize rg a = p at *
  generalize rg b = q at *
  generalize mg a = ma at *
  generalize mg b = mb at *
  generalize pl a = pa at *
  generalize pl b = pb at *
  have HF := Lib.hid (And.intro hwa (And.intro hwb (And.intro hsh (And.intro hh (And.intro hbn (And.intro hi63 hk63))))))
  clear hwa hwb hsh hh hbn hi63 hk63
  go_enter Try.func23, Try.ntmps23
  go_upto_region 10 with (first | ((with_reducible refine hna.mono ?_); rintro e w' ⟨rfl, rfl⟩) | ((with_reducible refine hnb.mono ?_); rintro e w' ⟨rfl, rfl⟩) | ((with_reducible refine (HOA.out _).mono ?_); rintro e w1 ⟨rfl, hb1⟩) | ((with_reducible refine (HOB.out _).mono ?_); rintro e w2 ⟨rfl, hb2⟩))
  have hbx := hb1.trans (hb2.mono hb1.size)
  have hby := hbx.alloc hbx.size (.cells #[.bool sa, .int .u64 0, .int .u64 ma, .int .i64 pa, .bool false] 41)
  have hbz := hby.alloc hby.size (.cells #[.bool sb, .int .u64 0, .int .u64 mb, .int .i64 pb, .bool false] 41)
  have HBZ := Lib.hid hbz
  clear hbx hby hbz hb1 hb2 hra hrb ia ib ja jb hna hnb hs
  go_quiet (first | (go_at_call 53; refine Calls.quiet_of_same (HZA.out _)) | (go_at_call 53; refine Calls.quiet_of_same (HZB.out _)))
  obtain ⟨hwa, hwb, hsh, hh, hbn, hi63, hk63⟩ := HF.out
  have hi0 : (0 : Int) ≤ (i : Int) := by omega
  have hk0 : (0 : Int) ≤ (k : Int) := by omega
  go_upto_region 11 with fail
  go_quiet (fail)
  go_wp2_with (first | ((with_reducible refine (HD.out _).mono ?_); rintro e w3 ⟨rfl, rfl⟩))
  refine (HRD.out _).mono ?_
  rintro e w4 ⟨rfl, hb4⟩
  have hbq := (below_drewN HBZ.out _).trans (hb4.mono (below_drewN HBZ.out _).size)
  have HBQ := Lib.hid hbq
  clear hb4 hbq
  go_wp2_with fail
  go_ret
  exact ⟨rfl, HBQ.out⟩
theorem rdiv_any (w : World) (a b : Nat) (ha : a < 2 ^ 64) (hb : b < 2 ^ 64) : Calls Try.prog 23 #[.int .u64 a, .int .u64 b] w fun e w' => e = .returned (.int .u64 (divB a b)) ∧ Below w.heap.size w w' := by
  by_cases h : isNone a ∨ isNone b ∨ rg a = inf ∨ rg b = inf ∨ rg a = 0 ∨ rg b = 0
  · exact rdiv_edge w a b ha hb h
  · exact rdiv_fin w a b ha hb (by unfold isNone at h; omega) (by unfold isNone at h; omega) (by omega) (by omega)
end Go.Proofs.Ytlgnkgcofdjamaa
