/-
  The document's own Add and Sub: their walks.
-/
import Derived.Test.YtlgnkgcofdjamaaRefAdd
namespace Go.Proofs.Ytlgnkgcofdjamaa
open Go.RowKit

theorem addB_zero (a b : Nat) (ha : rg a = 0) (hb : rg b = 0) : addB a b = mk (sg a && sg b) 0 := by
  have h0 : (0 : Nat) < inf := by decide
  rw [addB_fin a b (by omega) (by omega)]
  have ht : tot a b = 0 := by
    unfold tot Ieee.signed
    rw [(mg_zero a).2 ha, (mg_zero b).2 hb, Nat.zero_shiftLeft, Nat.zero_shiftLeft]
    simp
  rw [ht, if_pos rfl]
  exact nearest_zero _ _
theorem and_zero (a b : Nat) (h1 : a < 2 ^ 64) (h2 : b < 2 ^ 64) (ha : rg a = 0) (hb : rg b = 0) : bits .and .u64 (a : Int) (b : Int) = ((mk (sg a && sg b) 0 : Nat) : Int) := by
  rw [and_nat a b h1 h2]
  have e1 := mk_of a h1
  have e2 := mk_of b h2
  rw [ha] at e1
  rw [hb] at e2
  congr 1
  rw [← e1, ← e2, sg_mk _ 0 (by decide), sg_mk _ 0 (by decide)]
  cases sg a <;> cases sg b <;> decide
theorem bne_nat (a b : Nat) : (((a : Nat) : Int) != ((b : Nat) : Int)) = decide (a ≠ b) := by
  by_cases h : a = b
  · subst h; simp
  · have : ((a : Nat) : Int) ≠ ((b : Nat) : Int) := by omega
    simp [this, h]
set_option maxRecDepth 100000 in
set_option maxHeartbeats 1000000 in
/-- Where one is no finite real, or both are noughts. -/
theorem radd_edge (w : World) (a b : Nat) (ha : a < 2 ^ 64) (hb : b < 2 ^ 64) (h : isNone a ∨ isNone b ∨ rg a = inf ∨ rg b = inf ∨ (rg a = 0 ∧ rg b = 0)) : Calls Try.prog 17 #[.int .u64 a, .int .u64 b] w fun e w' => e = .returned (.int .u64 (addB a b)) ∧ Below w.heap.size w w' := by
  have hna := rnone_any w a ha
  have hnb := rnone_any w b hb
  have hra := andNot_sign a ha
  have hrb := andNot_sign b hb
  have ia := beq_inf a
  have ib := beq_inf b
  have za := beq_zero a
  have zb := beq_zero b
  have hne := bne_nat a b
  by_cases na : isNone a
  · rw [decide_eq_true na] at hna
    have hv : addB a b = NAN := by unfold addB; rw [add_none a b (.inl na)]; rfl
    rw [hv]
    clear ia ib za zb na hv h hne
    generalize rg a = p at *
    generalize rg b = q at *
    go_enter Try.func17, Try.ntmps17
    go_wp2_with (first | ((with_reducible refine hna.mono ?_); rintro e w' ⟨rfl, rfl⟩))
    go_ret
    exact ⟨rfl, Below.refl _ _⟩
  by_cases nb : isNone b
  · rw [decide_eq_false na] at hna
    rw [decide_eq_true nb] at hnb
    have hv : addB a b = NAN := by unfold addB; rw [add_none a b (.inr nb)]; rfl
    rw [hv]
    clear ia ib za zb na nb hv h hne
    generalize rg a = p at *
    generalize rg b = q at *
    go_enter Try.func17, Try.ntmps17
    go_wp2_with (first | ((with_reducible refine hna.mono ?_); rintro e w' ⟨rfl, rfl⟩) | ((with_reducible refine hnb.mono ?_); rintro e w' ⟨rfl, rfl⟩))
    go_ret
    exact ⟨rfl, Below.refl _ _⟩
  rw [decide_eq_false na] at hna
  rw [decide_eq_false nb] at hnb
  have la : rg a ≤ inf := by unfold isNone at na; omega
  have lb : rg b ≤ inf := by unfold isNone at nb; omega
  have h0 : 0 < inf := by decide
  have h' := (h.resolve_left na).resolve_left nb
  have hand : rg a = 0 → rg b = 0 → bits .and .u64 (a : Int) (b : Int) = ((addB a b : Nat) : Int) := fun x y => by rw [addB_zero a b x y]; exact and_zero a b ha hb x y
  have cases4 : (decide (rg a = inf) = true ∧ decide (rg b = inf) = true ∧ decide (a ≠ b) = true ∧ addB a b = NAN) ∨ (decide (rg a = inf) = true ∧ decide (rg b = inf) = true ∧ decide (a ≠ b) = false ∧ addB a b = a) ∨
      (decide (rg a = inf) = true ∧ decide (rg b = inf) = false ∧ addB a b = a) ∨ (decide (rg a = inf) = false ∧ decide (rg b = inf) = true ∧ addB a b = b) ∨
      (decide (rg a = inf) = false ∧ decide (rg b = inf) = false ∧ decide (rg a = 0) = true ∧ decide (rg b = 0) = true ∧ bits .and .u64 (a : Int) (b : Int) = ((addB a b : Nat) : Int)) := by
    by_cases x1 : rg a = inf
    · by_cases x2 : rg b = inf
      · have hv := addB_inf a b ha hb x1 x2
        by_cases x3 : a = b
        · rw [if_pos x3] at hv
          exact .inr (.inl ⟨by simp [x1], by simp [x2], by simp [x3], hv⟩)
        · rw [if_neg x3] at hv
          exact .inl ⟨by simp [x1], by simp [x2], by simp [x3], hv⟩
      · exact .inr (.inr (.inl ⟨by simp [x1], by simp [x2], addB_inf_l a b ha x1 (by omega)⟩))
    · by_cases x2 : rg b = inf
      · exact .inr (.inr (.inr (.inl ⟨by simp [x1], by simp [x2], addB_inf_r a b hb (by omega) x2⟩)))
      · have z1 : rg a = 0 := by omega
        have z2 : rg b = 0 := by omega
        exact .inr (.inr (.inr (.inr ⟨by simp [x1], by simp [x2], by simp [z1], by simp [z2], hand z1 z2⟩)))
  clear h h' la lb na nb h0 hand
  generalize decide (rg a = inf) = x1 at *
  generalize decide (rg b = inf) = x2 at *
  generalize decide (rg a = 0) = x3 at *
  generalize decide (rg b = 0) = x4 at *
  generalize decide (a ≠ b) = x5 at *
  generalize addB a b = v at *
  generalize rg a = p at *
  generalize rg b = q at *
  rcases cases4 with ⟨rfl, rfl, rfl, rfl⟩ | ⟨rfl, rfl, rfl, rfl⟩ | ⟨rfl, rfl, rfl⟩ | ⟨rfl, rfl, rfl⟩ | ⟨rfl, rfl, rfl, rfl, hv⟩
  all_goals
    go_enter Try.func17, Try.ntmps17
    go_wp2_with (first | ((with_reducible refine hna.mono ?_); rintro e w' ⟨rfl, rfl⟩) | ((with_reducible refine hnb.mono ?_); rintro e w' ⟨rfl, rfl⟩))
    go_ret
    exact ⟨rfl, Below.refl _ _⟩
theorem down_one {H1 L1 B2 H2 L2 D : Nat} (h : W128 H1 L1 = D) (hb : (L1 = 0 ∧ B2 = 1) ∨ (1 ≤ L1 ∧ B2 = 0)) (h1 : L1 < 2 ^ 64) (hH : H2 + B2 = H1) (hL : L2 = (L1 + 18446744073709551616 - 1) % 18446744073709551616) (_h0 : 0 < D) : W128 H2 L2 = D - 1 := by
  unfold W128 at *
  have key : ∀ K : Nat, H1 * K + L1 = D → 1 ≤ K → L1 < K → L2 = (L1 + K - 1) % K → H2 * K + L2 = D - 1 := by
    intro K h h2 h3 hL
    rcases hb with ⟨rfl, rfl⟩ | ⟨hb, rfl⟩
    · rw [← hH, Nat.add_mul, Nat.one_mul] at h
      rw [Nat.zero_add, Nat.mod_eq_of_lt (by omega)] at hL
      omega
    · rw [Nat.add_zero] at hH
      rw [← hH] at h
      have e : L1 + K - 1 = L1 - 1 + K := by omega
      rw [e, Nat.add_mod_right, Nat.mod_eq_of_lt (by omega)] at hL
      omega
  exact key _ h (by decide) h1 hL
/-- The two exact numbers, as they lie behind the swap. -/
def SW (v : Nat) (w2 : World) (W : World) : Prop := ∃ (a b : Nat), rg a < inf ∧ rg b < inf ∧ v = addB a b ∧ pl b ≤ pl a ∧ W = (w2.alloc (.cells #[.bool (sg a), .int .u64 0, .int .u64 (mg a), .int .i64 (pl a), .bool false] 41)).alloc (.cells #[.bool (sg b), .int .u64 0, .int .u64 (mg b), .int .i64 (pl b), .bool false] 41)
set_option maxRecDepth 100000 in
set_option maxHeartbeats 20000000 in
theorem radd_fin (w : World) (a b : Nat) (ha : a < 2 ^ 64) (hb : b < 2 ^ 64) (fa : rg a < inf) (fb : rg b < inf) (hz : ¬ (rg a = 0 ∧ rg b = 0)) : Calls Try.prog 17 #[.int .u64 a, .int .u64 b] w fun e w' => e = .returned (.int .u64 (addB a b)) ∧ Below w.heap.size w w' := by
  have hna := rnone_any w a ha
  have hnb := rnone_any w b hb
  rw [decide_eq_false (by unfold isNone; omega)] at hna hnb
  have hra := andNot_sign a ha
  have hrb := andNot_sign b hb
  have ia := beq_inf a
  have ib := beq_inf b
  have za := beq_zero a
  have zb := beq_zero b
  have d1 : decide (rg a = inf) = false := by simp; omega
  have d2 : decide (rg b = inf) = false := by simp; omega
  rw [d1] at ia
  rw [d2] at ib
  obtain ⟨p1, p2, p3⟩ := open_bounds a fa
  obtain ⟨q1, q2, q3⟩ := open_bounds b fb
  have HOA := Lib.hid (fun W => open_any W a ha fa)
  have HOB := Lib.hid (fun W => open_any W b hb fb)
  have hsw1 : pl b ≤ pl a → ∀ w2 : World, SW (addB a b) w2 ((w2.alloc (.cells #[.bool (sg a), .int .u64 0, .int .u64 (mg a), .int .i64 (pl a), .bool false] 41)).alloc (.cells #[.bool (sg b), .int .u64 0, .int .u64 (mg b), .int .i64 (pl b), .bool false] 41)) := fun h w2 => ⟨a, b, fa, fb, rfl, h, rfl⟩
  have hsw2 : pl a ≤ pl b → ∀ w2 : World, SW (addB a b) w2 ((w2.alloc (.cells #[.bool (sg b), .int .u64 0, .int .u64 (mg b), .int .i64 (pl b), .bool false] 41)).alloc (.cells #[.bool (sg a), .int .u64 0, .int .u64 (mg a), .int .i64 (pl a), .bool false] 41)) := fun h w2 => ⟨b, a, fb, fa, add_comm a b, h, rfl⟩
  have hzz : decide (rg a = 0) = false ∨ decide (rg b = 0) = false := by
    by_cases h : rg a = 0
    · exact .inr (by simp; omega)
    · exact .inl (by simp [h])
  generalize addB a b = v at *
  have HS1 := Lib.hid hsw1
  have HS2 := Lib.hid hsw2
  clear hsw1 hsw2 d1 d2 fa fb hz
  generalize decide (rg a = 0) = x3 at *
  generalize decide (rg b = 0) = x4 at *
  generalize sg a = sa at *
  generalize sg b = sb at *
  generalize rg a = p at *
  generalize rg b = q at *
  generalize mg a = ma at *
  generalize mg b = mb at *
  generalize pl a = pa at *
  generalize pl b = pb at *
  go_enter Try.func17, Try.ntmps17
  go_upto_region 9 with (first | ((with_reducible refine hna.mono ?_); rintro e w' ⟨rfl, rfl⟩) | ((with_reducible refine hnb.mono ?_); rintro e w' ⟨rfl, rfl⟩))
  go_cut [44] from 196 (fun u wr => u = .bool false ∧ wr = w)
  case first =>
    rcases hzz with rfl | rfl
    · go_wp2_with fail
      go_meet
      case rel => exact ⟨rfl, rfl⟩
    · cases x3
      all_goals
        go_wp2_with fail
        go_meet
        case rel => exact ⟨rfl, rfl⟩
  case rest =>
    obtain ⟨rfl, rfl⟩ := hcut
    go_upto_if 64 with (first | ((with_reducible refine (HOA.out _).mono ?_); rintro e w1 ⟨rfl, hb1⟩) | ((with_reducible refine (HOB.out _).mono ?_); rintro e w2 ⟨rfl, hb2⟩))
    have hbx := hb1.trans (hb2.mono hb1.size)
    obtain ⟨z, hz⟩ : ∃ z, z = decide (pa < pb) := ⟨_, rfl⟩
    rw [← hz]
    have HZ := Lib.hid hz
    have HBX := Lib.hid hbx
    clear hz hb1 hb2 hbx hra hrb ia ib za zb hna hnb HOA HOB
    go_cut [65] from 196 (fun _ wr => SW v w2 wr)
    case first =>
      cases z
      · have h1 : pb ≤ pa := by have := of_decide_eq_false HZ.out.symm; omega
        have hsw := HS1.out h1 w2
        go_wp2_with fail
        go_meet
        case rel => exact hsw
      · have h1 : pa ≤ pb := by have := of_decide_eq_true HZ.out.symm; omega
        have hsw := HS2.out h1 w2
        go_wp2_with fail
        go_meet
        case rel => exact hsw
    case rest =>
      obtain ⟨a', b', fa, fb, hvv, hle, rfl⟩ := hcut
      clear HS1 HS2 HZ p1 p2 p3 q1 q2 q3 hzz
      obtain ⟨p1, p2, p3⟩ := open_bounds a' fa
      obtain ⟨q1, q2, q3⟩ := open_bounds b' fb
      obtain ⟨d, hd⟩ : ∃ d : Nat, pl a' - pl b' = d := ⟨(pl a' - pl b').toNat, by omega⟩
      have hg1 := addG_low a' b' fa fb d hd
      have hg2 := addG_high a' b' fa fb
      rw [← hvv] at hg1
      simp only [← hvv] at hg2
      clear hvv
      generalize sg a' = sx at *
      generalize sg b' = sy at *
      generalize mg a' = mx at *
      generalize mg b' = my at *
      generalize pl a' = px at *
      generalize pl b' = py at *
      clear fa fb
      have HG1 := Lib.hid hg1
      have HG2 := Lib.hid hg2
      clear hg1 hg2
      have hd3 : d ≤ 3000 := by omega
      go_upto_if 76 with fail
      obtain ⟨y, hy⟩ : ∃ y, y = decide ((64 : Int) < (d : Int)) := ⟨_, rfl⟩
      rw [← hy]
      have HY := Lib.hid hy
      clear hy
      go_cut [7] from 196 (fun u wr => ∃ (d' n : Nat) (E : Int) (mo : Bool), u = .int .i64 d' ∧ AddG v sx mx sy d' n E mo ∧ wr = ((w2.alloc (.cells #[.bool sx, .int .u64 0, .int .u64 mx, .int .i64 px, .bool false] 41)).alloc (.cells #[.bool sy, .int .u64 0, .int .u64 n, .int .i64 py, .bool mo] 41)).alloc (.cells #[.bool false, .int .u64 0, .int .u64 0, .int .i64 E, .bool false] 41))
      case first =>
        cases y
        case false =>
          have h64 : d ≤ 64 := by have := of_decide_eq_false HY.out.symm; omega
          have hg := HG1.out h64
          go_wp2_with fail
          go_meet
          case rel => exact ⟨d, my, py, false, rfl, hg, rfl⟩
        case true =>
          have h64 : 64 < d := by have := of_decide_eq_true HY.out.symm; omega
          obtain ⟨e, he⟩ : ∃ e, d = e + 64 := ⟨d - 64, by omega⟩
          have hg := HG2.out e (by rw [hd, he]) (by omega)
          have hr := fun W => rright_any W 0 my e (by decide) (by omega)
          have hW : W128 0 my = my := by unfold W128; omega
          have hlt : my / 2 ^ e < 18446744073709551616 := Nat.lt_of_le_of_lt (Nat.div_le_self _ _) (by omega)
          simp only [hW, Nat.mod_eq_of_lt hlt, Int.natCast_zero] at hr
          subst he
          generalize decide (my % 2 ^ e ≠ 0) = mo at hg hr
          generalize my / 2 ^ e = n at hg hr hlt
          have HR := Lib.hid hr
          have hd4 : (e : Int) ≤ 3000 := by omega
          have hd5 : (0 : Int) ≤ (e : Int) := by omega
          have e9 : IntKind.i64.wrap ((e : Int) + 64 - 64) = (e : Int) := by rw [IntKind.wrap_i64]; omega
          have e10 : (((e + 64 : Nat) : Int)) = (e : Int) + 64 := by omega
          clear hr hW hlt HG1 HG2 HY
          go_wp2_with (first | ((with_reducible refine (HR.out _).mono ?_); rintro e w' ⟨rfl, rfl⟩))
          go_meet
          case rel => exact ⟨64, n, px - 64, mo, rfl, hg, rfl⟩
      case rest =>
        obtain ⟨d', n, E, mo, rfl, hg, rfl⟩ := hcut
        clear HG1 HG2 HY hd hd3 hle p1 p2 p3 q1 q2 q3
        have hd64 := hg.d64
        have hmx := hg.mx53
        have hn := hg.n53
        have hE1 := hg.e1
        have hE2 := hg.e2
        have hMl : mx * 2 ^ d' < 2 ^ 117 := Nat.lt_of_lt_of_le ((Nat.mul_lt_mul_right (Nat.two_pow_pos d')).2 hmx) (by rw [← Nat.pow_add]; exact Nat.pow_le_pow_right (by decide) (by omega))
        have hbig : mo = true → 2 ^ 116 ≤ mx * 2 ^ d' := fun h => by
          obtain ⟨b1, b2⟩ := hg.big h
          rw [b2]
          exact Nat.mul_le_mul_right (2 ^ 64) b1
        have hsame := hg.same
        have hless := hg.less
        have hnull := hg.null
        have hmore := hg.more
        have hW : W128 0 mx = mx := by unfold W128; omega
        have hl := fun W => rleft_any W 0 mx d' (by omega) (by omega) (by rw [hW]; omega)
        simp only [hW, Int.natCast_zero] at hl
        clear hW hg
        generalize mx * 2 ^ d' = M at *
        obtain ⟨Hi, hHi⟩ : ∃ x, x = M / 18446744073709551616 := ⟨_, rfl⟩
        obtain ⟨Lo, hLo⟩ : ∃ x, x = M % 18446744073709551616 := ⟨_, rfl⟩
        have hM : M = Hi * 18446744073709551616 + Lo := by omega
        have hHi2 : Hi < 2 ^ 53 := by omega
        have hLo2 : Lo < 2 ^ 64 := by omega
        rw [← hHi, ← hLo] at hl
        have HL := Lib.hid hl
        have hbx2 := HBX.out.alloc HBX.out.size (.cells #[.bool sx, .int .u64 Hi, .int .u64 Lo, .int .i64 px, .bool false] 41)
        have hbx3 := hbx2.alloc hbx2.size (.cells #[.bool sy, .int .u64 0, .int .u64 n, .int .i64 py, .bool mo] 41)
        have HB3 := Lib.hid (fun c => hbx3.alloc hbx3.size (.cells c 41))
        clear hl hHi hLo hbx2 hbx3 hMl
        by_cases hs : sx = sy
        · subst hs
          have hv := hsame rfl
          clear hsame hless hnull hmore
          have hadd := fun W => add64_0 Lo n W hLo2 (by omega)
          obtain ⟨L1, hL1⟩ : ∃ x, x = (Lo + n) % 18446744073709551616 := ⟨_, rfl⟩
          obtain ⟨C, hC⟩ : ∃ x, x = (Lo + n) / 18446744073709551616 := ⟨_, rfl⟩
          have hW : W128 (Hi + C) L1 = M + n := by unfold W128; omega
          have hr := fun W => rounded_all W sx (Hi + C) L1 E mo (by omega) (by omega) (by omega) (by omega) (fun h => by have := hbig h; rw [hW]; omega)
          simp only [hW, ← hv, Int.natCast_add] at hr
          simp only [← hL1, ← hC] at hadd
          have HR := Lib.hid hr
          have hcs : ((Hi + C : Nat) : Int) = (Hi : Int) + (C : Int) := by omega
          have hb5 : (Hi : Int) + (C : Int) ≤ 9223372036854775807 := by omega
          have HV := Lib.hid hv
          clear hr hW hv hM hbig hL1 hC hcs
          go_wp2_with (first | ((with_reducible refine (HL.out _).mono ?_); rintro e w' ⟨rfl, rfl⟩))
          refine (HR.out _).mono ?_
          rintro e w3 ⟨rfl, hb4⟩
          have HBZ := Lib.hid ((HB3.out _).trans (hb4.mono (HB3.out _).size))
          clear hb4
          go_wp2_with fail
          go_ret
          exact ⟨rfl, HBZ.out⟩
        · have hsb : (sx == sy) = false := by simp [hs]
          by_cases hlt : M < n
          · obtain ⟨rfl, hv⟩ := hless hs hlt
            obtain rfl : Hi = 0 := by omega
            obtain rfl : Lo = M := by omega
            have hW : W128 0 (n - Lo) = n - Lo := by unfold W128; omega
            have hr := fun W => rounded_all W sy 0 (n - Lo) E false (by decide) (by omega) (by omega) (by omega) (fun h => by cases h)
            simp only [hW, ← hv, Int.natCast_zero] at hr
            have e9 : IntKind.u64.wrap ((n : Int) - (Lo : Int)) = ((n - Lo : Nat) : Int) := by rw [IntKind.wrap_u64]; omega
            obtain ⟨D, hD⟩ : ∃ D, D = n - Lo := ⟨_, rfl⟩
            rw [← hD] at e9
            simp only [← hD] at hr
            have HR := Lib.hid hr
            have i1 : (Lo : Int) < (n : Int) := by omega
            have i2 : (Lo : Int) ≤ (n : Int) := by omega
            have hD2 : (n : Int) - (Lo : Int) = (D : Int) := by omega
            clear hr hv hW hD hless hnull hmore hsame hbig hM
            go_wp2_with (first | ((with_reducible refine (HL.out _).mono ?_); rintro e w' ⟨rfl, rfl⟩))
            refine (HR.out _).mono ?_
            rintro e w3 ⟨rfl, hb4⟩
            have HBZ := Lib.hid ((HB3.out _).trans (hb4.mono (HB3.out _).size))
            clear hb4
            go_wp2_with fail
            go_ret
            exact ⟨rfl, HBZ.out⟩
          · obtain ⟨L1, hL1⟩ : ∃ x, x = (Lo + 18446744073709551616 - n) % 18446744073709551616 := ⟨_, rfl⟩
            obtain ⟨B, hB⟩ : ∃ x, x = bor Lo n := ⟨_, rfl⟩
            have hsub := fun W => sub64_0 Lo n W hLo2 (by omega)
            simp only [← hL1, ← hB] at hsub
            obtain ⟨H1, hH1⟩ : ∃ x : Nat, (x : Int) = (Hi : Int) - (B : Int) := ⟨Hi - B, by unfold bor at hB; split at hB <;> omega⟩
            have hW1 : W128 H1 L1 = M - n := by unfold W128; unfold bor at hB; split at hB <;> omega
            have hH1b : H1 < 2 ^ 53 := by omega
            have hL1b : L1 < 2 ^ 64 := by omega
            have hH2 : (Hi : Int) - (B : Int) = (H1 : Int) := hH1.symm
            have hwr : IntKind.u64.wrap (H1 : Int) = (H1 : Int) := wrap_nat H1 (by omega)
            have hg : (Hi = 0 ∧ n ≤ Lo) ∨ Hi ≠ 0 := by omega
            have hHB : (0 : Int) ≤ (Hi : Int) - (B : Int) := by omega
            clear hH1 hB
            have hmn : mo = false → M = n → v = 0 := fun h1 h2 => hnull hs h2 h1
            have hmm : mo = true ∨ n < M → v = near sx (M - n - mo.toNat) E mo := hmore hs (by omega)
            clear hsame hless hnull hmore
            cases mo with
            | false =>
              clear hbig
              by_cases hMn : M = n
              · have hv := hmn rfl hMn
                obtain rfl : H1 = 0 := by unfold W128 at hW1; omega
                obtain rfl : L1 = 0 := by unfold W128 at hW1; omega
                have HV := Lib.hid hv
                clear hmn hmm hW1 hv hL1 hM hMn
                rcases hg with ⟨hg1, hg2⟩ | hg2
                · have i1 : ¬ (Lo : Int) < (n : Int) := by omega
                  have i0 : ((Hi : Int) == 0) = true := by rw [beq_iff_eq]; omega
                  clear hg1 hg2
                  go_wp2_with (first | ((with_reducible refine (HL.out _).mono ?_); rintro e w' ⟨rfl, rfl⟩))
                  go_ret
                  exact ⟨by rw [HV.out]; rfl, HB3.out _⟩
                · have i1 : ((Hi : Int) == 0) = false := by rw [beq_eq_false_iff_ne]; omega
                  go_wp2_with (first | ((with_reducible refine (HL.out _).mono ?_); rintro e w' ⟨rfl, rfl⟩))
                  go_ret
                  exact ⟨by rw [HV.out]; rfl, HB3.out _⟩
              · have hv := hmm (.inr (by omega))
                rw [Bool.toNat_false, Nat.sub_zero] at hv
                have hr := fun W => rounded_all W sx H1 L1 E false (by omega) (by omega) (by omega) (by omega) (fun h => by cases h)
                simp only [hW1, ← hv] at hr
                have HR := Lib.hid hr
                have hz : H1 = 0 → L1 ≠ 0 := fun h => by unfold W128 at hW1; omega
                clear hmn hmm hW1 hv hr hL1 hM hMn
                have hz2 : (H1 = 0 ∧ L1 ≠ 0) ∨ H1 ≠ 0 := by omega
                clear hz
                rcases hg with ⟨hg1, hg2⟩ | hg2
                · have i1 : ¬ (Lo : Int) < (n : Int) := by omega
                  have i0 : ((Hi : Int) == 0) = true := by rw [beq_iff_eq]; omega
                  clear hg1 hg2
                  rcases hz2 with ⟨hz4, hz3⟩ | hz3
                  · have i2 : ((L1 : Int) == 0) = false := by rw [beq_eq_false_iff_ne]; omega
                    have i3 : ((H1 : Int) == 0) = true := by rw [beq_iff_eq]; omega
                    clear hz4 hz3
                    go_wp2_with (first | ((with_reducible refine (HL.out _).mono ?_); rintro e w' ⟨rfl, rfl⟩))
                    refine (HR.out _).mono ?_
                    rintro e w3 ⟨rfl, hb4⟩
                    have HBZ := Lib.hid ((HB3.out _).trans (hb4.mono (HB3.out _).size))
                    clear hb4
                    go_wp2_with fail
                    go_ret
                    exact ⟨rfl, HBZ.out⟩
                  · have i2 : ((H1 : Int) == 0) = false := by rw [beq_eq_false_iff_ne]; omega
                    go_wp2_with (first | ((with_reducible refine (HL.out _).mono ?_); rintro e w' ⟨rfl, rfl⟩))
                    refine (HR.out _).mono ?_
                    rintro e w3 ⟨rfl, hb4⟩
                    have HBZ := Lib.hid ((HB3.out _).trans (hb4.mono (HB3.out _).size))
                    clear hb4
                    go_wp2_with fail
                    go_ret
                    exact ⟨rfl, HBZ.out⟩
                · have i1 : ((Hi : Int) == 0) = false := by rw [beq_eq_false_iff_ne]; omega
                  rcases hz2 with ⟨hz4, hz3⟩ | hz3
                  · have i2 : ((L1 : Int) == 0) = false := by rw [beq_eq_false_iff_ne]; omega
                    have i3 : ((H1 : Int) == 0) = true := by rw [beq_iff_eq]; omega
                    clear hz4 hz3
                    go_wp2_with (first | ((with_reducible refine (HL.out _).mono ?_); rintro e w' ⟨rfl, rfl⟩))
                    refine (HR.out _).mono ?_
                    rintro e w3 ⟨rfl, hb4⟩
                    have HBZ := Lib.hid ((HB3.out _).trans (hb4.mono (HB3.out _).size))
                    clear hb4
                    go_wp2_with fail
                    go_ret
                    exact ⟨rfl, HBZ.out⟩
                  · have i2 : ((H1 : Int) == 0) = false := by rw [beq_eq_false_iff_ne]; omega
                    go_wp2_with (first | ((with_reducible refine (HL.out _).mono ?_); rintro e w' ⟨rfl, rfl⟩))
                    refine (HR.out _).mono ?_
                    rintro e w3 ⟨rfl, hb4⟩
                    have HBZ := Lib.hid ((HB3.out _).trans (hb4.mono (HB3.out _).size))
                    clear hb4
                    go_wp2_with fail
                    go_ret
                    exact ⟨rfl, HBZ.out⟩
            | true =>
              have hb116 := hbig rfl
              have hv := hmm (.inl rfl)
              rw [Bool.toNat_true] at hv
              have hg2 : Hi ≠ 0 := by omega
              have i1 : ((Hi : Int) == 0) = false := by rw [beq_eq_false_iff_ne]; omega
              obtain ⟨L2, hL2⟩ : ∃ x, x = (L1 + 18446744073709551616 - 1) % 18446744073709551616 := ⟨_, rfl⟩
              obtain ⟨B2, hB2⟩ : ∃ x, x = bor L1 1 := ⟨_, rfl⟩
              have hsub2 := fun W => sub64_0 L1 1 W hL1b (by decide)
              simp only [← hL2, ← hB2, Int.natCast_one] at hsub2
              have hbig1 : 2 ^ 50 ≤ H1 := by unfold W128 at hW1; omega
              obtain ⟨H2, hH2'⟩ : ∃ x : Nat, (x : Int) = (H1 : Int) - (B2 : Int) := ⟨H1 - B2, by unfold bor at hB2; split at hB2 <;> omega⟩
              have hb2 : (L1 = 0 ∧ B2 = 1) ∨ (1 ≤ L1 ∧ B2 = 0) := by unfold bor at hB2; split at hB2 <;> omega
              have hW2 : W128 H2 L2 = M - n - 1 := down_one hW1 hb2 hL1b (by omega) hL2 (by omega)
              have hH3 : (H1 : Int) - (B2 : Int) = (H2 : Int) := hH2'.symm
              have hwr2 : IntKind.u64.wrap (H2 : Int) = (H2 : Int) := wrap_nat H2 (by omega)
              have i2 : ((H2 : Int) == 0) = false := by rw [beq_eq_false_iff_ne]; unfold bor at hB2; split at hB2 <;> omega
              have hr := fun W => rounded_all W sx H2 L2 E true (by omega) (by omega) (by omega) (by omega) (fun _ => by rw [hW2]; omega)
              simp only [hW2, ← hv] at hr
              have HR := Lib.hid hr
              have i5 : (B2 : Int) ≤ (H1 : Int) := by omega
              clear hmn hmm hW1 hW2 hv hr hb116 hbig hL2 hB2 hH2' hbig1 hg hL1 hM
              go_wp2_with (first | ((with_reducible refine (HL.out _).mono ?_); rintro e w' ⟨rfl, rfl⟩))
              refine (HR.out _).mono ?_
              rintro e w3 ⟨rfl, hb4⟩
              have HBZ := Lib.hid ((HB3.out _).trans (hb4.mono (HB3.out _).size))
              clear hb4
              go_wp2_with fail
              go_ret
              exact ⟨rfl, HBZ.out⟩
theorem radd_any (w : World) (a b : Nat) (ha : a < 2 ^ 64) (hb : b < 2 ^ 64) : Calls Try.prog 17 #[.int .u64 a, .int .u64 b] w fun e w' => e = .returned (.int .u64 (addB a b)) ∧ Below w.heap.size w w' := by
  by_cases h : isNone a ∨ isNone b ∨ rg a = inf ∨ rg b = inf ∨ (rg a = 0 ∧ rg b = 0)
  · exact radd_edge w a b ha hb h
  · exact radd_fin w a b ha hb (by unfold isNone at h; omega) (by unfold isNone at h; omega) (by omega)
theorem neg_lt (a : Nat) : negB a < 2 ^ 64 := by
  unfold negB NAN mk
  have := rg_lt a
  split
  · omega
  · split <;> omega
set_option maxRecDepth 100000 in
theorem rsub_any (w : World) (a b : Nat) (ha : a < 2 ^ 64) (hb : b < 2 ^ 64) : Calls Try.prog 19 #[.int .u64 a, .int .u64 b] w fun e w' => e = .returned (.int .u64 (subB a b)) ∧ Below w.heap.size w w' := by
  have hn := rneg_any w b hb
  have h2 := radd_any w a (negB b) ha (neg_lt b)
  rw [sub_add]
  have HN := Lib.hid hn
  have H2 := Lib.hid h2
  clear hn h2
  generalize addB a (negB b) = v at *
  generalize negB b = x at *
  go_enter Try.func19, Try.ntmps19
  go_wp2_with fail
  refine HN.out.mono ?_
  rintro e w' ⟨rfl, rfl⟩
  go_wp2_with fail
  refine H2.out.mono ?_
  rintro e w' ⟨rfl, hb1⟩
  have HB := Lib.hid hb1
  clear hb1
  go_wp2_with fail
  go_ret
  exact ⟨rfl, HB.out⟩
end Go.Proofs.Ytlgnkgcofdjamaa
