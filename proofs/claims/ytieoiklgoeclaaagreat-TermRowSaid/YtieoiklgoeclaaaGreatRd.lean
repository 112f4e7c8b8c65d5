/-
  The document's own: ends (60), InOrder (66).
  The document's own: InOrder (66), Deep (30).
-/
import Derived.Test.YtieoiklgoeclaaaGreatRt
namespace Go.Proofs.YtieoiklgoeclaaaGreat
open Go.RowKit

/-- What ends tells. -/
def EndsR (w : World) (n : Nat) (ks : Nat → Int) (e : Ending) (w' : World) : Prop :=
  (∃ E D gE, Laid ks n E D ∧ e = .returned (.tuple #[.slice (some ⟨gE, 0, none⟩) n n, .bool true]) ∧ w.heap.size ≤ gE ∧ Lies w' gE (iv n E) 3 ∧ Below w.heap.size w w') ∨
  (layOf ks n = none ∧ ∃ a m c, e = .returned (.tuple #[.slice a m c, .bool false]) ∧ Below w.heap.size w w')
theorem layN_neg {ks : Nat → Int} {n j : Nat} {E D : Nat → Nat} (h0 : layN ks n j = some (E, D)) (hj : j < n) (h : ks (n - 1 - j) < 0) : layOf ks n = none := by
  unfold layOf
  cases hl : layN ks n n with
  | none => rfl
  | some y =>
    obtain ⟨E2, D2, h2⟩ := layN_prev n (j + 1) y hl (by omega)
    have := (layN_succ h0 h2).1
    omega
theorem walk_more {E D : Nat → Nat} {n : Nat} : ∀ (m k : Nat) (s : Nat × Nat), walk E D n k s = none → walk E D n (k + m) s = none
  | 0, k, s, h => h
  | m + 1, k, s, h => by
    rw [← Nat.add_assoc]
    simp only [walk, walk_more m k s h]
theorem layN_short {ks : Nat → Int} {n j k : Nat} {E D : Nat → Nat} (h0 : layN ks n j = some (E, D)) (hj : j < n) (h1 : (k : Int) ≤ ks (n - 1 - j)) (h : walk E D n k (n - 1 - j + 1, 0) = none) : layOf ks n = none := by
  unfold layOf
  cases hl : layN ks n n with
  | none => rfl
  | some y =>
    obtain ⟨E2, D2, h2⟩ := layN_prev n (j + 1) y hl (by omega)
    obtain ⟨h3, a, m, h4, -⟩ := layN_succ h0 h2
    have := walk_more ((ks (n - 1 - j)).toNat - k) k _ h
    rw [show k + ((ks (n - 1 - j)).toNat - k) = (ks (n - 1 - j)).toNat by omega, h4] at this
    cases this
set_option maxRecDepth 100000 in
set_option maxHeartbeats 1000000 in
theorem ends_any (w : World) (a : Option Addr) (n nc : Nat) (ks : Nat → Int) (hn : n ≤ 1000000) (hk : KsAt w a n ks) :
    Calls Tryz.prog 40 #[.agg #[.slice a n nc]] w (EndsR w n ks) := by
  have hA : Lies (w.alloc (.cells #[.slice a n nc] 27)) w.heap.size #[.slice a n nc] 27 := Lies.new _ _ _
  have hb0 : Below w.heap.size w (w.alloc (.cells #[.slice a n nc] 27)) := (Below.refl _ _).alloc (Nat.le_refl _) _
  have hmk := fun V => mk_ints n hn V
  have n1 : (n : Int) ≤ 1000000 := by omega
  have n0 : (0 : Int) ≤ (n : Int) := by omega
  have H := Lib.hid (And.intro hn hk)
  clear hn hk
  go_enter Tryz.func40, Tryz.ntmps40
  go_upto_region 1 with fail
  generalize w.alloc (.cells #[.slice a n nc] 27) = W0 at hA hb0 ⊢
  have c0 := hA.cell 0 (v := .slice a n nc) rfl
  have H0 := Lib.hid (And.intro hA hb0)
  clear hA hb0
  go_upto_region 3 with fail
  clear c0 hmk
  have hE := Lies.new W0 (iv n fun _ => 0) 3
  have hb1 : Below W0.heap.size W0 (W0.alloc (.cells (iv n fun _ => 0) 3)) := (Below.refl _ _).alloc (Nat.le_refl _) _
  generalize W0.alloc (.cells (iv n fun _ => 0) 3) = W1 at hE hb1 ⊢
  have H1 := Lib.hid (And.intro hE hb1)
  clear hE hb1
  go_wp2_with fail
  go_loopw [6] (fun i W => ∃ j : Nat, j ≤ n ∧ i = .int .i64 ((n : Int) - 1 - j) ∧ ∃ E1 D1, layN ks n j = some (E1, D1) ∧ Lies W W0.heap.size (iv n E1) 3 ∧ Below W0.heap.size W0 W) (fun i _ => (intOf i + 1).toNat)
  case atStart => exact ⟨0, by omega, by simp, _, _, rfl, H1.out.1, H1.out.2⟩
  case round =>
    obtain ⟨j, hj, rfl, E1, D1, hlay, z1, hbr⟩ := hrel
    by_cases hlt : j < n
    · obtain ⟨i, hi⟩ : ∃ i, i = n - 1 - j := ⟨_, rfl⟩
      have ei : (n : Int) - 1 - (j : Int) = (i : Int) := by omega
      rw [ei]
      have hbw := H0.out.2.trans (hbr.mono H0.out.2.size)
      obtain ⟨g, off, ea, hg, hki, hkm⟩ := H.out.2.below hbw (Nat.le_refl _) i (by omega)
      subst ea
      have c0 := (H0.out.1.below hbr H0.out.1.lt).cell 0 (v := .slice (some ⟨g, off, none⟩) n nc) rfl
      obtain ⟨kk, hkk⟩ : ∃ kk, kk = ks i := ⟨_, rfl⟩
      rw [← hkk] at hki hkm
      have q0 : (0 : Int) ≤ (i : Int) := by omega
      have q1 : (i : Int) < (n : Int) := by omega
      have HJ := Lib.hid (And.intro hlay (And.intro z1 (And.intro hbr (And.intro hbw (And.intro hkk hi)))))
      clear hlay z1 hbr hbw ei hkk hi
      by_cases hneg : kk < 0
      · have hno : layOf ks n = none := layN_neg HJ.out.1 hlt (by rw [← HJ.out.2.2.2.2.2, ← HJ.out.2.2.2.2.1]; exact hneg)
        have HN := Lib.hid hno
        clear hno
        go_wp2_with fail
        refine bodyPost_ret (v := .tuple #[.slice none 0 0, .bool false]) (by simp [results, Tryz.results40, go_sem]) rfl (.inr ⟨HN.out, none, 0, 0, rfl, HJ.out.2.2.2.1⟩)
      · obtain ⟨m, hm⟩ : ∃ m : Nat, kk = m := ⟨kk.toNat, by omega⟩
        subst hm
        have HM := Lib.hid (And.intro hki hkm)
        go_upto_region 10 with fail
        go_loop [7, 8] (fun p c => ∃ (k pp d : Nat), k ≤ m ∧ c = .int .i64 k ∧ p = .int .i64 pp ∧ walk E1 D1 n k (i + 1, 0) = some (pp, d)) (fun _ c => (m - intOf c).toNat)
        case atStart => exact ⟨0, i + 1, 0, by omega, by go_num, by go_num, rfl⟩
        case round =>
          obtain ⟨k, pp, d, hk, rfl, rfl, hw⟩ := hrel
          have hpp := walk_le (layN_inv ks n j E1 D1 (by omega) HJ.out.1).1 (layN_inv ks n j E1 D1 (by omega) HJ.out.1).2.1 k (i + 1, 0) pp d (by simp only; omega) (Nat.zero_le _) hw
          have HWk := Lib.hid hw
          clear hw
          by_cases hkm' : k < m
          · have q2 : (k : Int) < (m : Int) := by omega
            by_cases hpn : pp = n
            · have hno : layOf ks n = none := layN_short HJ.out.1 hlt (k := k + 1) (by rw [← HJ.out.2.2.2.2.2, ← HJ.out.2.2.2.2.1]; omega) (by
                rw [← HJ.out.2.2.2.2.2]
                simp only [walk, HWk.out, if_pos hpn])
              have HN := Lib.hid hno
              have q3 : (n : Int) ≤ (pp : Int) := by omega
              clear hno hpn
              go_wp2_with fail
              refine bodyPost_ret (v := .tuple #[.slice none 0 0, .bool false]) (by simp [results, Tryz.results40, go_sem]) rfl (.inr ⟨HN.out, none, 0, 0, rfl, HJ.out.2.2.2.1⟩)
            · have q3 : ¬ (n : Int) ≤ (pp : Int) := by omega
              have q4 : (pp : Int) < (n : Int) := by omega
              have q5 : (0 : Int) ≤ (pp : Int) := by omega
              have hE := HJ.out.2.1.cell pp (iv_get n E1 pp (by omega))
              have hnext : walk E1 D1 n (k + 1) (i + 1, 0) = some (E1 pp, max d (D1 pp)) := by
                simp only [walk, HWk.out, if_neg hpn]
              obtain ⟨x1, hx1⟩ : ∃ x, x = E1 pp := ⟨_, rfl⟩
              rw [← hx1] at hE hnext
              have HX := Lib.hid hnext
              clear hnext hx1 hpn
              go_wp2_with fail
              exact ⟨⟨k + 1, x1, _, by omega, by go_num, rfl, HX.out⟩, by simp [intOf]; omega⟩
          · have q2 : ¬ (k : Int) < (m : Int) := by omega
            have hkme : k = m := by omega
            subst hkme
            have hlay2 : layN ks n (j + 1) = some (upd E1 i pp, upd D1 i (d + 1)) := by
              simp only [layN, HJ.out.1]
              rw [← HJ.out.2.2.2.2.2, ← HJ.out.2.2.2.2.1, if_neg (by omega), Int.toNat_natCast, HWk.out]
            have hfr := HJ.out.2.1.free i
            have hce := HJ.out.2.1.cell i (iv_get n E1 i (by omega))
            have hset := HJ.out.2.1.set i (.int .i64 pp)
            rw [iv_set] at hset
            have hbs := HJ.out.2.2.1.setCell (p := ⟨W0.heap.size, i, none⟩) (Nat.le_refl _) (.int .i64 pp)
            have HL := Lib.hid (And.intro hlay2 (And.intro hset hbs))
            clear hlay2 hset hbs hkm'
            go_wp2_with fail
            exact ⟨⟨j + 1, by omega, by congr 1; have := HJ.out.2.2.2.2.2; omega, _, _, HL.out.1, HL.out.2.1, HL.out.2.2⟩, by simp [intOf]⟩
    · have hjn : j = n := by omega
      subst hjn
      have hbw := H0.out.2.trans (hbr.mono H0.out.2.size)
      have q1 : ¬ (0 : Int) ≤ (j : Int) - 1 - (j : Int) := by omega
      have hsz : w.heap.size ≤ W0.heap.size := H0.out.2.size
      by_cases hj0 : j = 0
      · subst hj0
        have hno : layOf ks 0 = none := by unfold layOf; rw [hlay]; rfl
        have HN := Lib.hid (And.intro hno hbw)
        have hd : decide ((0 : Int) < ((0 : Nat) : Int)) = false := by simp
        clear hno hbw hlay z1 hbr
        go_upto_region 16 with fail
        go_quiet (fail)
        go_wp2_with fail
        exact bodyPost_ret (v := .tuple #[.slice (some ⟨W0.heap.size, 0, none⟩) 0 0, .bool false]) (by simp [results, Tryz.results40, go_sem]) rfl (.inr ⟨HN.out.1, _, 0, 0, rfl, below_drewN HN.out.2 nq⟩)
      · have q3 : (0 : Int) < (j : Int) := by omega
        have q4 : 0 < j := by omega
        have hce := z1.cell 0 (iv_get j E1 0 q4)
        obtain ⟨x0, hx0⟩ : ∃ x, x = E1 0 := ⟨_, rfl⟩
        rw [← hx0] at hce
        have HN := Lib.hid (And.intro hlay (And.intro z1 (And.intro hbw hx0)))
        clear hlay z1 hbw hbr hx0
        by_cases hE : x0 = j
        · subst hE
          have hl : Laid ks x0 E1 D1 := ⟨q4, HN.out.1, HN.out.2.2.2.symm⟩
          have hd : (((x0 : Int) == (x0 : Int)) : Bool) = true := by simp
          have HLd := Lib.hid hl
          clear hl
          go_upto_region 16 with fail
          go_quiet (fail)
          go_wp2_with fail
          exact bodyPost_ret (v := .tuple #[.slice (some ⟨W0.heap.size, 0, none⟩) x0 x0, .bool true]) (by simp [results, Tryz.results40, go_sem]) rfl (.inl ⟨E1, D1, _, HLd.out, rfl, hsz, HN.out.2.1, below_drewN HN.out.2.2.1 nq⟩)
        · have hno : layOf ks j = none := by
            unfold layOf
            rw [HN.out.1]
            simp only
            rw [if_neg (fun h => hE (by rw [HN.out.2.2.2]; exact h.2))]
          have hd : (((x0 : Int) == (j : Int)) : Bool) = false := by rw [beq_eq_false_iff_ne]; omega
          have HO := Lib.hid hno
          clear hno hE
          go_upto_region 16 with fail
          go_quiet (fail)
          go_wp2_with fail
          exact bodyPost_ret (v := .tuple #[.slice (some ⟨W0.heap.size, 0, none⟩) j j, .bool false]) (by simp [results, Tryz.results40, go_sem]) rfl (.inr ⟨HO.out, _, j, j, rfl, below_drewN HN.out.2.2.1 nq⟩)
end Go.Proofs.YtieoiklgoeclaaaGreat
namespace Go.Proofs.YtieoiklgoeclaaaGreat
open Go.RowKit

theorem inOrd_laid {ks : Nat → Int} {n : Nat} {E D : Nat → Nat} (h : Laid ks n E D) : inOrd ks n = true := by unfold inOrd; rw [layOf_laid h]; rfl
theorem inOrd_none {ks : Nat → Int} {n : Nat} (h : layOf ks n = none) : inOrd ks n = false := by unfold inOrd; rw [h]; rfl
theorem deepOf_laid {ks : Nat → Int} {n : Nat} {E D : Nat → Nat} (h : Laid ks n E D) : deepOf ks n = D 0 := by unfold deepOf; rw [layOf_laid h]
theorem deepOf_none {ks : Nat → Int} {n : Nat} (h : layOf ks n = none) : deepOf ks n = 0 := by unfold deepOf; rw [h]
set_option maxRecDepth 100000 in
theorem rinO_any (w : World) (a : Option Addr) (n nc : Nat) (ks : Nat → Int) (hn : n ≤ 1000000) (hk : KsAt w a n ks) :
    Calls Tryz.prog 47 #[.agg #[.slice a n nc]] w fun e w' => e = .returned (.bool (inOrd ks n)) ∧ Below w.heap.size w w' := by
  have hA : Lies (w.alloc (.cells #[.slice a n nc] 27)) w.heap.size #[.slice a n nc] 27 := Lies.new _ _ _
  have hb0 : Below w.heap.size w (w.alloc (.cells #[.slice a n nc] 27)) := (Below.refl _ _).alloc (Nat.le_refl _) _
  have he := ends_any _ a n nc ks hn (hk.below hb0 (Nat.le_refl _))
  have H := Lib.hid (And.intro he hb0)
  clear he hn hk hb0
  go_enter Tryz.func47, Tryz.ntmps47
  go_upto_region 1 with fail
  generalize w.alloc (.cells #[.slice a n nc] 27) = W0 at H hA ⊢
  have c0 := hA.cell 0 (v := .slice a n nc) rfl
  clear hA
  go_wp2_with fail
  refine H.out.1.mono ?_
  rintro e w2 (⟨E, D, gE, hl, rfl, -, -, hb⟩ | ⟨hl, x, m, c, rfl, hb⟩)
  · have HB := Lib.hid (And.intro (inOrd_laid hl) (H.out.2.trans (hb.mono H.out.2.size)))
    clear hl hb c0
    go_wp2_with fail
    go_ret
    exact ⟨by rw [HB.out.1]; rfl, HB.out.2⟩
  · have HB := Lib.hid (And.intro (inOrd_none hl) (H.out.2.trans (hb.mono H.out.2.size)))
    clear hl hb c0
    go_wp2_with fail
    go_ret
    exact ⟨by rw [HB.out.1]; rfl, HB.out.2⟩
/-- What lies deep from a place on, out of the rest. -/
theorem walk_fst {E D D' : Nat → Nat} {n : Nat} : ∀ (k : Nat) (s : Nat × Nat) (d' : Nat) (r : Nat × Nat), walk E D n k s = some r → ∃ m, walk E D' n k (s.1, d') = some (r.1, m)
  | 0, s, d', r, h => by
    simp only [walk, Option.some.injEq] at h
    subst h
    exact ⟨d', rfl⟩
  | k + 1, s, d', r, h => by
    simp only [walk] at h
    cases hk : walk E D n k s with
    | none => rw [hk] at h; cases h
    | some y =>
      obtain ⟨a0, m0⟩ := y
      rw [hk] at h
      obtain ⟨m, hm⟩ := walk_fst (D' := D') k s d' _ hk
      simp only at h hm
      split at h
      · cases h
      · rename_i hne
        cases h
        exact ⟨max m (D' a0), by simp only [walk, hm, if_neg hne]⟩
theorem layN_keep {ks : Nat → Int} {n : Nat} : ∀ (J j : Nat) (E D E1 D1 : Nat → Nat), j ≤ J → J ≤ n → layN ks n J = some (E, D) → layN ks n j = some (E1, D1) → ∀ x, n - j ≤ x → x < n → E1 x = E x ∧ D1 x = D x
  | 0, j, E, D, E1, D1, hj, _, h, h1, x, hx, hxn => by
    obtain rfl : j = 0 := by omega
    rw [h] at h1; cases h1; exact ⟨rfl, rfl⟩
  | J + 1, j, E, D, E1, D1, hj, hJ, h, h1, x, hx, hxn => by
    by_cases e : j = J + 1
    · subst e; rw [h] at h1; cases h1; exact ⟨rfl, rfl⟩
    · obtain ⟨E2, D2, h2⟩ := layN_prev (J + 1) J _ h (by omega)
      obtain ⟨-, a, m, -, rfl, rfl⟩ := layN_succ h2 h
      obtain ⟨k1, k2⟩ := layN_keep J j E2 D2 E1 D1 (by omega) (by omega) h2 h1 x hx hxn
      have hne : x ≠ n - 1 - J := by omega
      simp only [upd, if_neg hne]
      exact ⟨k1, k2⟩
theorem layN_low {ks : Nat → Int} {n : Nat} : ∀ (j : Nat) (E1 D1 : Nat → Nat), j ≤ n → layN ks n j = some (E1, D1) → ∀ x, x < n - j → D1 x = 0
  | 0, E1, D1, _, h, x, _ => by
    simp only [layN, Option.some.injEq, Prod.mk.injEq] at h
    obtain ⟨rfl, rfl⟩ := h; rfl
  | j + 1, E1, D1, hj, h, x, hx => by
    obtain ⟨E2, D2, h2⟩ := layN_prev (j + 1) j _ h (by omega)
    obtain ⟨-, a, m, -, rfl, rfl⟩ := layN_succ h2 h
    have hne : x ≠ n - 1 - j := by omega
    simp only [upd, if_neg hne]
    exact layN_low j E2 D2 (by omega) h2 x (by omega)
theorem upd_same (f : Nat → Nat) (i x : Nat) (h : f i = x) : upd f i x = f := by
  funext j
  unfold upd
  split
  · rename_i e; rw [e, h]
  · rfl
theorem upd_upd (f : Nat → Nat) (i x y : Nat) : upd (upd f i x) i y = upd f i y := by
  funext j
  unfold upd
  split <;> rfl
set_option maxRecDepth 100000 in
set_option maxHeartbeats 1000000 in
theorem rdeep_any (w : World) (a : Option Addr) (n nc : Nat) (ks : Nat → Int) (hn : n ≤ 1000000) (hk : KsAt w a n ks) :
    Calls Tryz.prog 19 #[.agg #[.slice a n nc]] w fun e w' => e = .returned (.int .i64 (deepOf ks n)) ∧ Below w.heap.size w w' := by
  have hA : Lies (w.alloc (.cells #[.slice a n nc] 27)) w.heap.size #[.slice a n nc] 27 := Lies.new _ _ _
  have hb0 : Below w.heap.size w (w.alloc (.cells #[.slice a n nc] 27)) := (Below.refl _ _).alloc (Nat.le_refl _) _
  have he := ends_any _ a n nc ks hn (hk.below hb0 (Nat.le_refl _))
  have hmk := fun V => mk_ints n hn V
  have n1 : (n : Int) ≤ 1000000 := by omega
  have n0 : (0 : Int) ≤ (n : Int) := by omega
  have H := Lib.hid (And.intro he (And.intro hb0 (And.intro hA hk)))
  clear he hn hk hb0
  go_enter Tryz.func19, Tryz.ntmps19
  go_upto_region 1 with fail
  generalize w.alloc (.cells #[.slice a n nc] 27) = W0 at H hA ⊢
  have c0 := hA.cell 0 (v := .slice a n nc) rfl
  clear hA
  go_wp2_with fail
  refine H.out.1.mono ?_
  rintro e w2 (⟨E, D, gE, hl, rfl, hgE, hzE, hb⟩ | ⟨hl, x, m, c, rfl, hb⟩)
  · have hn0 := hl.1
    have c2 := (H.out.2.2.1.below hb H.out.2.2.1.lt).cell 0 (v := .slice a n nc) rfl
    have H2 := Lib.hid (And.intro hl (And.intro hgE (And.intro hzE (And.intro hb (H.out.2.1.trans (hb.mono H.out.2.1.size))))))
    clear hl hgE hzE hb c0
    go_upto_region 5 with fail
    clear c2 hmk
    have hY := Lies.new w2 (iv n fun _ => 0) 3
    have hb1 : Below w2.heap.size w2 (w2.alloc (.cells (iv n fun _ => 0) 3)) := (Below.refl _ _).alloc (Nat.le_refl _) _
    generalize w2.alloc (.cells (iv n fun _ => 0) 3) = W1 at hY hb1 ⊢
    have c0 : W1.cell? ⟨w.heap.size, 0, none⟩ = some (.slice a n nc) := (((H.out.2.2.1.below H2.out.2.2.2.1 H.out.2.2.1.lt)).below hb1 (Nat.lt_of_lt_of_le H.out.2.2.1.lt H2.out.2.2.2.1.size)).cell 0 rfl
    have H3 := Lib.hid (And.intro hY hb1)
    clear hY hb1
    go_upto_region 6 with fail
    clear c0
    go_loopw [6] (fun i W => ∃ j : Nat, j ≤ n ∧ i = .int .i64 ((n : Int) - 1 - j) ∧ ∃ E1 D1, layN ks n j = some (E1, D1) ∧ Lies W w2.heap.size (iv n D1) 3 ∧ Below w2.heap.size w2 W) (fun i _ => (intOf i + 1).toNat)
    case atStart => exact ⟨0, by omega, by simp, _, _, rfl, H3.out.1, H3.out.2⟩
    case round =>
      obtain ⟨j, hj, rfl, E1, D1, hlay, z1, hbr⟩ := hrel
      by_cases hlt : j < n
      · obtain ⟨i, hi⟩ : ∃ i, i = n - 1 - j := ⟨_, rfl⟩
        have ei : (n : Int) - 1 - (j : Int) = (i : Int) := by omega
        rw [ei]
        have hb2 : Below W0.heap.size W0 wr := H2.out.2.2.2.1.trans (hbr.mono H2.out.2.2.2.1.size)
        have hbw := H.out.2.1.trans (hb2.mono H.out.2.1.size)
        obtain ⟨g, off, ea, hg, hki, hkm⟩ := H.out.2.2.2.below hbw (Nat.le_refl _) i (by omega)
        subst ea
        have hinv := layN_inv ks n j E1 D1 (by omega) hlay
        have hkeep := layN_keep n j E D E1 D1 (by omega) (Nat.le_refl _) H2.out.1.2.1 hlay
        obtain ⟨E2, D2, hl2⟩ := layN_prev n (j + 1) _ H2.out.1.2.1 (by omega)
        obtain ⟨hk0, aa, mm, hwk, -, -⟩ := layN_succ hlay hl2
        have hlow := layN_low j E1 D1 (by omega) hlay i (by omega)
        rw [← hi] at hk0 hwk
        obtain ⟨m, hm⟩ : ∃ m : Nat, ks i = m := ⟨(ks i).toNat, by omega⟩
        rw [hm] at hki hkm hwk
        rw [Int.toNat_natCast] at hwk
        have q0 : (0 : Int) ≤ (i : Int) := by omega
        have q1 : (i : Int) < (n : Int) := by omega
        have HJ := Lib.hid (And.intro hlay (And.intro z1 (And.intro hbr (And.intro hinv (And.intro hkeep (And.intro hwk (And.intro hlow (And.intro hi (And.intro hm hg)))))))))
        have HKI := Lib.hid hki
        clear hlay z1 hbr ei hinv hkeep hwk hlow hi hm hki hl2 hk0 hbw hb2
        go_upto_region 10 with fail
        go_loopw [7, 8] (fun p c W => ∃ (k pp d : Nat), k ≤ m ∧ c = .int .i64 k ∧ p = .int .i64 pp ∧ walk E1 D1 n k (i + 1, 0) = some (pp, d) ∧ Lies W w2.heap.size (iv n (upd D1 i d)) 3 ∧ Below w2.heap.size w2 W) (fun _ c _ => (m - intOf c).toNat)
        case atStart => exact ⟨0, i + 1, 0, by omega, by go_num, by go_num, rfl, by rw [upd_same D1 i 0 HJ.out.2.2.2.2.2.2.1]; exact HJ.out.2.1, HJ.out.2.2.1⟩
        case round =>
          obtain ⟨k, pp, d, hk, rfl, rfl, hw, z2, hbr2⟩ := hrel
          have hgood := walk_good (i := i) (fun x hx1 hx2 => ⟨(HJ.out.2.2.2.1.2.2 x (by have := HJ.out.2.2.2.2.2.2.2.1; omega) hx2).1, HJ.out.2.2.2.1.1 x, (HJ.out.2.2.2.1.2.2 x (by have := HJ.out.2.2.2.2.2.2.2.1; omega) hx2).2⟩) (by omega) k pp d hw
          have hb02 : Below W0.heap.size W0 wr := H2.out.2.2.2.1.trans (hbr2.mono H2.out.2.2.2.1.size)
          have hbw2 := H.out.2.1.trans (hb02.mono H.out.2.1.size)
          have c0 := (H.out.2.2.1.below hb02 H.out.2.2.1.lt).cell 0 (v := .slice (some ⟨g, off, none⟩) n nc) rfl
          have hzE := H2.out.2.2.1.below hbr2 H2.out.2.2.1.lt
          have hki : wr.cell? ⟨g, off + i * 5 + 4, none⟩ = some (.int .i64 (m : Int)) := by
            obtain ⟨g', off', ea', -, h4, -⟩ := H.out.2.2.2.below hbw2 (Nat.le_refl _) i (by omega)
            cases ea'
            rw [HJ.out.2.2.2.2.2.2.2.2.1] at h4
            exact h4
          by_cases hlt2 : k < m
          · have q2 : (k : Int) < (m : Int) := by omega
            have hnp : pp ≠ n := fun e => by
              have h1 : walk E1 D1 n (k + 1) (i + 1, 0) = none := by simp only [walk, hw, if_pos e]
              have h2 := walk_more (m - (k + 1)) (k + 1) _ h1
              rw [show k + 1 + (m - (k + 1)) = m by omega, HJ.out.2.2.2.2.2.1] at h2
              cases h2
            have hnext : walk E1 D1 n (k + 1) (i + 1, 0) = some (E1 pp, max d (D1 pp)) := by simp only [walk, hw, if_neg hnp]
            have q3 : (pp : Int) < (n : Int) := by omega
            have q4 : (0 : Int) ≤ (pp : Int) := by omega
            have r1 := z2.cell i (iv_get n _ i (by omega))
            have r2 := z2.cell pp (iv_get n _ pp (by omega))
            have r3 := hzE.cell pp (iv_get n _ pp (by omega))
            have u1 : upd D1 i d i = d := by simp [upd]
            have u2 : upd D1 i d pp = D1 pp := by simp [upd, show pp ≠ i by omega]
            have u3 : E pp = E1 pp := (HJ.out.2.2.2.2.1 pp (by have := HJ.out.2.2.2.2.2.2.2.1; omega) (by omega)).1.symm
            rw [u1] at r1
            rw [u2] at r2
            rw [u3] at r3
            obtain ⟨dx, hdx⟩ : ∃ x, x = D1 pp := ⟨_, rfl⟩
            obtain ⟨ex, hex⟩ : ∃ x, x = E1 pp := ⟨_, rfl⟩
            rw [← hdx] at r2 hnext
            rw [← hex] at r3 hnext
            have z2d : Lies wr.drew w2.heap.size (iv n (upd D1 i d)) 3 := z2
            have hbrd : Below w2.heap.size w2 wr.drew := hbr2.drew
            have hfr := z2d.free i
            have hcd := z2d.cell i (iv_get n _ i (by omega))
            rw [u1] at hcd
            have hset := z2d.set i (.int .i64 ((max d dx : Nat) : Int))
            rw [iv_set, upd_upd] at hset
            have hbs := hbrd.setCell (p := ⟨w2.heap.size, i, none⟩) (Nat.le_refl _) (.int .i64 ((max d dx : Nat) : Int))
            have r4 : (wr.drew.setCell ⟨w2.heap.size, i, none⟩ (.int .i64 ((max d dx : Nat) : Int))).cell? ⟨gE, pp, none⟩ = some (.int .i64 ex) := by
              have := (H2.out.2.2.1.below hbs H2.out.2.2.1.lt).cell pp (iv_get n _ pp (by omega))
              rw [u3, ← hex] at this
              exact this
            have HX := Lib.hid (And.intro hnext (And.intro hset (And.intro hbs (And.intro r4 r3))))
            have emx : ((max d dx : Nat) : Int) = max (d : Int) (dx : Int) := by omega
            rw [emx] at HX
            clear hnext hset hbs r4 hw z2 z2d hbrd hbr2 hgood hb02 hbw2 hzE hnp hdx hex u1 u2 u3 emx
            go_upto_region 12 with fail
            go_still_tail 12, (by kernel_rfl)
            change wpList _ _ _ _ _ wr.drew
            clear c0 hki r1 r2 r3
            generalize wr.drew = W4 at HX hfr hcd ⊢
            have r4 := HX.out.2.2.2.1
            go_wp2_with fail
            exact ⟨⟨k + 1, ex, max d dx, by omega, by go_num, rfl, HX.out.1, HX.out.2.1, HX.out.2.2.1⟩, by simp [intOf]; omega⟩
          · have q2 : ¬ (k : Int) < (m : Int) := by omega
            have hkm2 : k = m := by omega
            subst hkm2
            have hlay2 : layN ks n (j + 1) = some (upd E1 i pp, upd D1 i (d + 1)) := by
              simp only [layN, HJ.out.1]
              rw [← HJ.out.2.2.2.2.2.2.2.1, HJ.out.2.2.2.2.2.2.2.2.1, if_neg (by omega), Int.toNat_natCast, hw]
            have hd := hgood.2.2
            have u1 : upd D1 i d i = d := by simp [upd]
            have r1 := z2.cell i (iv_get n _ i (by omega))
            rw [u1] at r1
            have hfr := z2.free i
            have hset := z2.set i (.int .i64 ((d + 1 : Nat) : Int))
            rw [iv_set, upd_upd] at hset
            have hbs := hbr2.setCell (p := ⟨w2.heap.size, i, none⟩) (Nat.le_refl _) (.int .i64 ((d + 1 : Nat) : Int))
            have e1 : ((d + 1 : Nat) : Int) = (d : Int) + 1 := by omega
            have hd2 : (d : Int) ≤ 1000000 := by omega
            rw [e1] at hset hbs
            have HX := Lib.hid (And.intro hlay2 (And.intro hset hbs))
            clear hlay2 hset hbs hw z2 hbr2 hgood hb02 hbw2 hzE u1 hd e1 hlt2
            go_wp2_with fail
            exact ⟨⟨j + 1, by omega, by congr 1; have := HJ.out.2.2.2.2.2.2.2.1; omega, _, _, HX.out.1, HX.out.2.1, HX.out.2.2⟩, by simp [intOf]⟩
      · have hjn : j = n := by omega
        have q1 : ¬ (0 : Int) ≤ (n : Int) - 1 - (j : Int) := by omega
        have hl3 := H2.out.1.2.1
        rw [hjn] at hlay
        rw [hlay] at hl3
        cases hl3
        have hce := z1.cell 0 (iv_get n _ 0 hn0)
        have q3 : (0 : Int) < (n : Int) := by omega
        have hdp := deepOf_laid H2.out.1
        have HX := Lib.hid (And.intro hdp ((H.out.2.1.trans (H2.out.2.2.2.1.mono H.out.2.1.size)).trans (hbr.mono (Nat.le_trans H.out.2.1.size H2.out.2.2.2.1.size))))
        clear hdp hlay z1 hbr hlt
        go_wp2_with fail
        go_ret
        exact ⟨by rw [HX.out.1]; rfl, HX.out.2⟩
  · have HB := Lib.hid (And.intro (deepOf_none hl) (H.out.2.1.trans (hb.mono H.out.2.1.size)))
    clear hl hb c0
    go_wp2_with fail
    go_ret
    exact ⟨by rw [HB.out.1]; rfl, HB.out.2⟩
end Go.Proofs.YtieoiklgoeclaaaGreat
