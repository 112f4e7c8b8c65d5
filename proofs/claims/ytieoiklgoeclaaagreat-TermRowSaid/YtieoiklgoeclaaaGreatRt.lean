/-
  The document's own float, as far as terms want it: none (107), Canon (109), place (108), Right (88), Order (90).
  The document's own: compare (89), texts (91).
-/
import Derived.Test.YtieoiklgoeclaaaGreatLreals
namespace Go.Proofs.YtieoiklgoeclaaaGreat
open Go.RowKit Ieee

theorem andNot_sign (a : Nat) (ha : a < 2 ^ 64) : bits .andNot .u64 (a : Int) 9223372036854775808 = (rg a : Int) := by
  show IntKind.u64.wrap (((((BitVec.ofInt 64 (a : Int)) &&& ~~~(BitVec.ofInt 64 9223372036854775808) : BitVec 64)).toNat : Nat) : Int) = _
  have e1 : BitVec.ofInt 64 (a : Int) = BitVec.ofNat 64 a := by
    apply BitVec.eq_of_toNat_eq
    simp
  have e2 : ~~~(BitVec.ofInt 64 9223372036854775808) = BitVec.ofNat 64 (2 ^ 63 - 1) := by decide
  rw [e1, e2, BitVec.toNat_and, BitVec.toNat_ofNat, BitVec.toNat_ofNat, Nat.mod_eq_of_lt ha, Nat.mod_eq_of_lt (by decide), Nat.and_two_pow_sub_one_eq_mod]
  rw [IntKind.wrap_u64]
  have := rg_lt a
  unfold rg at *
  omega
theorem ofInt_nat (x : Nat) : BitVec.ofInt 64 (x : Int) = BitVec.ofNat 64 x := by
  apply BitVec.eq_of_toNat_eq
  simp
theorem or_nat (a b : Nat) (ha : a < 2 ^ 64) (hb : b < 2 ^ 64) : bits .or .u64 (a : Int) (b : Int) = ((a ||| b : Nat) : Int) := by
  show IntKind.u64.wrap ((((BitVec.ofInt 64 (a : Int)) ||| (BitVec.ofInt 64 (b : Int)) : BitVec 64).toNat : Nat) : Int) = _
  have h : a ||| b < 2 ^ 64 := Nat.or_lt_two_pow ha hb
  rw [ofInt_nat, ofInt_nat, BitVec.toNat_or, BitVec.toNat_ofNat, BitVec.toNat_ofNat, Nat.mod_eq_of_lt ha, Nat.mod_eq_of_lt hb, IntKind.wrap_u64]
  omega
theorem or_top (r : Nat) (hr : r < 2 ^ 63) : bits .or .u64 (r : Int) 9223372036854775808 = ((mk true r : Nat) : Int) := by
  have h := or_nat r 9223372036854775808 (by omega) (by decide)
  have e : r ||| 9223372036854775808 = mk true r := by
    have := Nat.shiftLeft_add_eq_or_of_lt (i := 63) (b := r) hr 1
    rw [Nat.shiftLeft_eq, show (1 * 2 ^ 63 : Nat) = 9223372036854775808 from rfl] at this
    rw [Nat.or_comm, ← this]
    rfl
  rw [e] at h
  exact h
set_option maxRecDepth 100000 in
theorem rnone_any (w : World) (a : Nat) (ha : a < 2 ^ 64) : Calls Tryz.prog 89 #[.int .u64 a] w fun e w' => e = .returned (.bool (decide (isNone a))) ∧ w = w' := by
  have h1 := andNot_sign a ha
  have h2 : isNone a ↔ (9218868437227405312 : Int) < (rg a : Int) := by unfold isNone inf; omega
  have h3 : decide ((9218868437227405312 : Int) < (rg a : Int)) = decide (isNone a) := by rw [decide_eq_decide]; exact h2.symm
  generalize decide (isNone a) = q at h3 ⊢
  clear h2
  go_enter Tryz.func89, Tryz.ntmps89
  go_wp2
  go_ret
  exact ⟨rfl, rfl⟩
theorem sg_ge (a : Nat) (ha : a < 2 ^ 64) : decide ((9223372036854775808 : Int) ≤ (a : Int)) = sg a := by
  unfold sg
  rw [Bool.eq_iff_iff, decide_eq_true_eq, beq_iff_eq]
  omega
set_option maxRecDepth 100000 in
theorem rcanon_any (w : World) (a : Nat) (ha : a < 2 ^ 64) : Calls Tryz.prog 91 #[.int .u64 a] w fun e w' => e = .returned (.int .u64 (canonB a)) ∧ w = w' := by
  have hn := rnone_any w a ha
  unfold canonB
  by_cases h : isNone a
  · rw [decide_eq_true h] at hn
    rw [if_pos h]
    go_enter Tryz.func91, Tryz.ntmps91
    go_wp2_with fail
    refine hn.mono ?_
    rintro e w' ⟨rfl, rfl⟩
    go_wp2_with fail
    go_ret
    exact ⟨rfl, rfl⟩
  · rw [decide_eq_false h] at hn
    rw [if_neg h]
    go_enter Tryz.func91, Tryz.ntmps91
    go_wp2_with fail
    refine hn.mono ?_
    rintro e w' ⟨rfl, rfl⟩
    go_wp2_with fail
    go_ret
    exact ⟨rfl, rfl⟩
set_option maxRecDepth 100000 in
theorem rrightB_any (w : World) (a : Nat) (ha : a < 2 ^ 64) : Calls Tryz.prog 64 #[.int .u64 a] w fun e w' => e = .returned (.bool (decide (canonB a = a))) ∧ w = w' := by
  have hn := rnone_any w a ha
  unfold canonB
  by_cases h : isNone a
  · rw [decide_eq_true h] at hn
    rw [if_pos h]
    have i1 : ((a : Int) == 9221120237041090560) = decide (NAN = a) := by
      rw [Bool.eq_iff_iff, beq_iff_eq, decide_eq_true_eq]; unfold NAN; omega
    generalize decide (NAN = a) = q at *
    go_enter Tryz.func64, Tryz.ntmps64
    go_wp2_with fail
    refine hn.mono ?_
    rintro e w' ⟨rfl, rfl⟩
    go_wp2_with fail
    go_ret
    exact ⟨rfl, rfl⟩
  · rw [decide_eq_false h] at hn
    rw [if_neg h]
    go_enter Tryz.func64, Tryz.ntmps64
    go_wp2_with fail
    refine hn.mono ?_
    rintro e w' ⟨rfl, rfl⟩
    go_wp2_with fail
    go_ret
    exact ⟨by simp, rfl⟩
def plc (a : Nat) : Nat := if sg a then 2 ^ 63 - 1 - rg a else 2 ^ 63 + rg a
theorem not_nat (a : Nat) (ha : a < 2 ^ 64) : bits .xor .u64 IntKind.u64.max (a : Int) = 18446744073709551615 - (a : Int) := by
  show IntKind.u64.wrap ((((BitVec.ofInt 64 IntKind.u64.max) ^^^ (BitVec.ofInt 64 (a : Int)) : BitVec 64).toNat : Nat) : Int) = _
  have e : BitVec.ofInt 64 IntKind.u64.max = BitVec.allOnes 64 := by decide
  rw [e, ofInt_nat, BitVec.allOnes_xor, BitVec.toNat_not, BitVec.toNat_ofNat, Nat.mod_eq_of_lt ha, IntKind.wrap_u64]
  omega
set_option maxRecDepth 100000 in
theorem place_any (w : World) (a : Nat) (ha : a < 2 ^ 64) : Calls Tryz.prog 90 #[.int .u64 a] w fun e w' => e = .returned (.int .u64 (plc a)) ∧ w = w' := by
  have hs : sg a = decide ((9223372036854775808 : Int) ≤ (a : Int)) := (sg_ge a ha).symm
  unfold plc
  by_cases h : (9223372036854775808 : Int) ≤ (a : Int)
  · rw [hs, decide_eq_true h, if_pos rfl]
    have hr : rg a = a - 2 ^ 63 := by unfold rg; omega
    have hx : ((2 ^ 63 - 1 - rg a : Nat) : Int) = 18446744073709551615 - (a : Int) := by rw [hr]; omega
    rw [hx]
    have hnot := not_nat a ha
    have hsg : IntKind.u64.signed = false := rfl
    clear hs hx hr
    go_enter Tryz.func90, Tryz.ntmps90
    go_wp2
    go_ret
    exact ⟨rfl, rfl⟩
  · rw [hs, decide_eq_false h, if_neg (by simp)]
    have hr : rg a = a := by unfold rg; omega
    have hor := or_top a (by omega)
    rw [hr]
    have e : mk true a = 2 ^ 63 + a := by unfold mk; rw [if_pos rfl]
    rw [e] at hor
    generalize 2 ^ 63 + a = q at *
    clear hs hr e
    go_enter Tryz.func90, Tryz.ntmps90
    go_wp2
    go_ret
    exact ⟨rfl, rfl⟩
theorem order_plc (a b : Nat) : orderB a b = if plc (canonB a) < plc (canonB b) then -1 else if plc (canonB b) < plc (canonB a) then 1 else 0 := by
  have key1 : ∀ x : Nat, isNone x → (plc (canonB x) : Int) = 2 ^ 63 + NAN := fun x h => by
    unfold canonB; rw [if_pos h]; rfl
  have key2 : ∀ x : Nat, ¬ isNone x → (plc (canonB x) : Int) = 2 ^ 63 + pos x ∧ pos x ≤ inf := fun x h => by
    have hr := rg_lt x
    unfold canonB pos plc
    rw [if_neg h, if_neg h]
    unfold isNone inf at h
    unfold inf
    cases sg x <;> simp only [if_true, Bool.false_eq_true, if_false] <;> omega
  have hi : (inf : Int) = 9218868437227405312 := rfl
  have hN : (NAN : Int) = 9221120237041090560 := rfl
  unfold orderB
  by_cases h1 : isNone a <;> by_cases h2 : isNone b
  · have := key1 a h1
    have := key1 b h2
    have p1 : pos a = inf + 1 := by unfold pos; rw [if_pos h1]
    have p2 : pos b = inf + 1 := by unfold pos; rw [if_pos h2]
    split <;> split <;> (try split) <;> omega
  · have := key1 a h1
    have := key2 b h2
    have p1 : pos a = inf + 1 := by unfold pos; rw [if_pos h1]
    split <;> split <;> (try split) <;> omega
  · have := key2 a h1
    have := key1 b h2
    have p2 : pos b = inf + 1 := by unfold pos; rw [if_pos h2]
    split <;> split <;> (try split) <;> omega
  · have := key2 a h1
    have := key2 b h2
    split <;> split <;> (try split) <;> omega
set_option maxRecDepth 100000 in
theorem rorder_any (w : World) (a b : Nat) (ha : a < 2 ^ 64) (hb : b < 2 ^ 64) : Calls Tryz.prog 66 #[.int .u64 a, .int .u64 b] w fun e w' => e = .returned (.int .i64 (orderB a b)) ∧ w = w' := by
  have hca := rcanon_any w a ha
  have hcb := rcanon_any w b hb
  have hpa := place_any w _ (canon_lt a ha)
  have hpb := place_any w _ (canon_lt b hb)
  rw [order_plc]
  generalize canonB a = x at *
  generalize canonB b = y at *
  generalize plc x = p at *
  generalize plc y = q at *
  by_cases h1 : p < q
  · have i1 : (p : Int) < (q : Int) := by omega
    rw [if_pos h1]
    go_enter Tryz.func66, Tryz.ntmps66
    go_wp2_with fail
    refine hca.mono ?_
    rintro e w' ⟨rfl, rfl⟩
    go_wp2_with fail
    refine hpa.mono ?_
    rintro e w' ⟨rfl, rfl⟩
    go_wp2_with fail
    refine hcb.mono ?_
    rintro e w' ⟨rfl, rfl⟩
    go_wp2_with fail
    refine hpb.mono ?_
    rintro e w' ⟨rfl, rfl⟩
    go_wp2_with fail
    go_ret
    exact ⟨rfl, rfl⟩
  rw [if_neg h1]
  have i1 : ¬ (p : Int) < (q : Int) := by omega
  by_cases h2 : q < p
  · have i2 : (q : Int) < (p : Int) := by omega
    rw [if_pos h2]
    go_enter Tryz.func66, Tryz.ntmps66
    go_wp2_with fail
    refine hca.mono ?_
    rintro e w' ⟨rfl, rfl⟩
    go_wp2_with fail
    refine hpa.mono ?_
    rintro e w' ⟨rfl, rfl⟩
    go_wp2_with fail
    refine hcb.mono ?_
    rintro e w' ⟨rfl, rfl⟩
    go_wp2_with fail
    refine hpb.mono ?_
    rintro e w' ⟨rfl, rfl⟩
    go_wp2_with fail
    go_ret
    exact ⟨rfl, rfl⟩
  · have i2 : ¬ (q : Int) < (p : Int) := by omega
    rw [if_neg h2]
    go_enter Tryz.func66, Tryz.ntmps66
    go_wp2_with fail
    refine hca.mono ?_
    rintro e w' ⟨rfl, rfl⟩
    go_wp2_with fail
    refine hpa.mono ?_
    rintro e w' ⟨rfl, rfl⟩
    go_wp2_with fail
    refine hcb.mono ?_
    rintro e w' ⟨rfl, rfl⟩
    go_wp2_with fail
    refine hpb.mono ?_
    rintro e w' ⟨rfl, rfl⟩
    go_wp2_with fail
    go_ret
    exact ⟨rfl, rfl⟩
end Go.Proofs.YtieoiklgoeclaaaGreat
namespace Go.Proofs.YtieoiklgoeclaaaGreat
open Go.RowKit

theorem rcompare_any (w : World) (x y : Int) : Calls Tryz.prog 65 #[.int .i64 x, .int .i64 y] w fun e w' => e = .returned (.int .i64 (cmpI x y)) ∧ w = w' := by
  unfold cmpI
  by_cases h1 : x < y
  · rw [if_pos h1]
    go_enter Tryz.func65, Tryz.ntmps65
    go_wp2_with fail
    go_ret
    exact ⟨rfl, rfl⟩
  rw [if_neg h1]
  by_cases h2 : y < x
  · rw [if_pos h2]
    go_enter Tryz.func65, Tryz.ntmps65
    go_wp2_with fail
    go_ret
    exact ⟨rfl, rfl⟩
  rw [if_neg h2]
  go_enter Tryz.func65, Tryz.ntmps65
  go_wp2_with fail
  go_ret
  exact ⟨rfl, rfl⟩
theorem cmpL_drop (x y : List UInt8) (i : Nat) (h1 : i < x.length) (h2 : i < y.length) (he : x[i] = y[i]) : cmpL (x.drop i) (y.drop i) = cmpL (x.drop (i + 1)) (y.drop (i + 1)) := by
  rw [List.drop_eq_getElem_cons h1, List.drop_eq_getElem_cons h2]
  conv => lhs; unfold cmpL
  rw [he, if_neg (UInt8.lt_irrefl _), if_neg (UInt8.lt_irrefl _)]
theorem cmpL_at (x y : List UInt8) (i : Nat) (h1 : i < x.length) (h2 : i < y.length) (he : x[i] ≠ y[i]) : cmpL (x.drop i) (y.drop i) = cmpI (x[i].toNat : Int) (y[i].toNat : Int) := by
  rw [List.drop_eq_getElem_cons h1, List.drop_eq_getElem_cons h2]
  conv => lhs; unfold cmpL
  unfold cmpI
  by_cases h3 : x[i] < y[i]
  · have : x[i].toNat < y[i].toNat := h3
    rw [if_pos h3, if_pos (by omega)]
  · have h4 : y[i] < x[i] := by
      rcases Nat.lt_trichotomy x[i].toNat y[i].toNat with h | h | h
      · exact absurd h h3
      · exact absurd (UInt8.toNat_inj.1 h) he
      · exact h
    have h5 : y[i].toNat < x[i].toNat := h4
    rw [if_neg h3, if_pos h4, if_neg (by omega), if_pos (by omega)]
theorem cmpL_end (x y : List UInt8) (i : Nat) (h : i = x.length ∨ i = y.length) (h1 : i ≤ x.length) (h2 : i ≤ y.length) : cmpL (x.drop i) (y.drop i) = cmpI (x.length : Int) (y.length : Int) := by
  unfold cmpI
  by_cases hx : i = x.length
  · rw [hx, List.drop_length]
    by_cases hy : x.length = y.length
    · rw [hy, List.drop_length, if_neg (by omega), if_neg (by omega)]; rfl
    · rw [if_pos (by omega)]
      cases hd : y.drop x.length with
      | nil => have := congrArg List.length hd; simp at this; omega
      | cons _ _ => rfl
  · have hy : i = y.length := by omega
    rw [hy, List.drop_length, if_neg (by omega), if_pos (by omega)]
    cases hd : x.drop y.length with
    | nil => have := congrArg List.length hd; simp at this; omega
    | cons _ _ => rfl
theorem wrap_byte (x : Int) (h0 : 0 ≤ x) (h1 : x ≤ 1000) : IntKind.i64.wrap x = x := by
  first
    | (rw [IntKind.wrap_i64]; unfold wrap64; omega)
    | (rw [IntKind.wrap_i64]; omega)
theorem txt_len (s : ByteArray) : s.toList.length = s.size := by rw [ByteArray.toList_eq]; rfl
theorem txt_at (s : ByteArray) (k : Nat) (h : k < s.size) : s.toList[k]'(by rw [txt_len]; exact h) = s[k] := by
  have : ∀ (l : List UInt8) (hl : k < l.length), l = s.data.toList → l[k] = s[k] := by
    intro l hl e
    subst e
    rfl
  exact this _ _ (ByteArray.toList_eq s)
set_option maxRecDepth 100000 in
theorem texts_any (w : World) (s t : ByteArray) (hs : s.size ≤ 1000000000000000) (ht : t.size ≤ 1000000000000000) : Calls Tryz.prog 67 #[.string s, .string t] w fun e w' => e = .returned (.int .i64 (cmpL s.toList t.toList)) ∧ Below w.heap.size w w' := by
  obtain ⟨R, hR⟩ : ∃ R, R = cmpL s.toList t.toList := ⟨_, rfl⟩
  rw [← hR]
  have HR := Lib.hid hR
  clear hR
  go_enter Tryz.func67, Tryz.ntmps67
  go_wp2_with fail
  go_loopw [5] (fun i W => ∃ k : Nat, i = .int .i64 k ∧ k ≤ s.size ∧ k ≤ t.size ∧ cmpL (s.toList.drop k) (t.toList.drop k) = R ∧ Below w.heap.size w W) (fun i _ => (s.size - intOf i).toNat)
  case atStart => exact ⟨0, by go_num, by omega, by omega, by rw [HR.out]; rfl, Below.refl _ _⟩
  case round =>
    obtain ⟨k, rfl, hk1, hk2, hk, hbr⟩ := hrel
    have HK := Lib.hid (And.intro hk hbr)
    have hend : k = s.size ∨ k = t.size → Calls Tryz.prog 65 #[.int .i64 s.size, .int .i64 t.size] wr fun e w' => e = .returned (.int .i64 R) ∧ wr = w' := fun h => by
      have h1 := cmpL_end s.toList t.toList k (by rw [txt_len, txt_len]; exact h) (by rw [txt_len]; exact hk1) (by rw [txt_len]; exact hk2)
      rw [txt_len, txt_len, hk] at h1
      rw [h1]
      exact rcompare_any wr _ _
    have HE := Lib.hid hend
    clear hk hbr hend
    by_cases h1 : k < s.size
    · have q1 : (k : Int) < (s.size : Int) := by omega
      by_cases h2 : k < t.size
      · have q2 : (k : Int) < (t.size : Int) := by omega
        have q0 : (0 : Int) ≤ (k : Int) := by omega
        by_cases he : s[k] = t[k]
        · have hc : ((((s[k].toNat : Nat) : Int) != ((t[k].toNat : Nat) : Int)) : Bool) = false := by rw [he]; simp
          have hstep : cmpL (s.toList.drop (k + 1)) (t.toList.drop (k + 1)) = R := by
            rw [← cmpL_drop s.toList t.toList k (by rw [txt_len]; exact h1) (by rw [txt_len]; exact h2) (by rw [txt_at s k h1, txt_at t k h2, he])]
            exact HK.out.1
          have HT := Lib.hid hstep
          clear hstep he
          go_upto_region 4 with fail
          go_quiet (fail)
          have HN := Lib.hid (below_drewN HK.out.2 nq)
          go_wp2_with fail
          exact ⟨⟨k + 1, by go_num, by omega, by omega, HT.out, HN.out⟩, by simp [intOf]; omega⟩
        · have hc : ((((s[k].toNat : Nat) : Int) != ((t[k].toNat : Nat) : Int)) : Bool) = true := by
            rw [bne_iff_ne]
            intro e
            exact he (UInt8.toNat_inj.1 (by omega))
          have hat := cmpL_at s.toList t.toList k (by rw [txt_len]; exact h1) (by rw [txt_len]; exact h2) (by rw [txt_at s k h1, txt_at t k h2]; exact he)
          rw [HK.out.1, txt_at s k h1, txt_at t k h2] at hat
          have l1 := s[k].toNat_lt
          have l2 := t[k].toNat_lt
          have h89 : ∀ V : World, Calls Tryz.prog 65 #[.int .i64 ((s[k].toNat : Nat) : Int), .int .i64 ((t[k].toNat : Nat) : Int)] V fun e w' => e = .returned (.int .i64 R) ∧ Below V.heap.size V w' := fun V => by
            rw [hat]
            exact (rcompare_any V _ _).mono fun e w' ⟨h1, h2⟩ => ⟨h1, by rw [h2]; exact Below.refl _ _⟩
          have HX := Lib.hid h89
          have w1 : IntKind.i64.wrap ((s[k].toNat : Nat) : Int) = ((s[k].toNat : Nat) : Int) := wrap_byte _ (by omega) (by omega)
          have w2 : IntKind.i64.wrap ((t[k].toNat : Nat) : Int) = ((t[k].toNat : Nat) : Int) := wrap_byte _ (by omega) (by omega)
          clear hat he h89 l1 l2
          go_upto_region 4 with fail
          go_quiet (fail)
          have HN := Lib.hid (below_drewN HK.out.2 nq)
          go_upto_region 5 with fail
          generalize wr.drewN nq = W2 at HN ⊢
          refine wp_region_quiet_below (by kernel_rfl) (by kernel_rfl) ?_
          iterate 10 (first | go_big_quiet_step ((go_at_call 65; exact Calls.regrown_of (HX.out _))) | quiet_step ((go_at_call 65; exact Calls.regrown_of (HX.out _))))
          refine wpQuiet_nil ?_
          intro w9 hw9
          have F9 : Hid (Below w.heap.size w w9) := Lib.hid (by obtain ⟨pp, rfl⟩ := hw9; exact HN.out.trans ((below_regrown W2 pp.d pp.os).mono HN.out.size))
          clear hw9
          go_wp2_with fail
          go_ret
          exact ⟨rfl, F9.out⟩
      · have q2 : ¬ (k : Int) < (t.size : Int) := by omega
        have HC := HE.out (.inr (by omega))
        go_wp2_with fail
        refine HC.mono ?_
        rintro e w' ⟨rfl, rfl⟩
        go_wp2_with fail
        go_ret
        exact ⟨rfl, HK.out.2⟩
    · have q1 : ¬ (k : Int) < (s.size : Int) := by omega
      have HC := HE.out (.inl (by omega))
      go_wp2_with fail
      refine HC.mono ?_
      rintro e w' ⟨rfl, rfl⟩
      go_wp2_with fail
      go_ret
      exact ⟨rfl, HK.out.2⟩
end Go.Proofs.YtieoiklgoeclaaaGreat
