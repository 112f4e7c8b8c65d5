/-
  TermReals' walk (6).
-/
import Derived.Test.YtieoiklgoeclaaaTawk
import Derived.Lib.QuietBelow
namespace Go.Proofs.Ytieoiklgoeclaaa
open Go.RowKit Ieee

theorem canon_lt (a : Nat) (ha : a < 2 ^ 64) : canonB a < 2 ^ 64 := by
  unfold canonB
  split
  · decide
  · exact ha
theorem leaf_fo (x : Nd) (h : x.kids = 0) : [x] = (Fo.cons x .nil .nil).flat := by
  obtain ⟨a, b, c, d, e⟩ := x
  simp only at h
  subst h
  rfl
theorem leaf_inO (x : Nd) (h : x.kids = 0) : inO [x] = true := by rw [leaf_fo x h]; exact inO_fo _ rfl
theorem leaf_deep (x : Nd) (h : x.kids = 0) : deepT [x] = 1 := by rw [leaf_fo x h, deep_fo _ rfl]; rfl
theorem leaf_right (x : Nd) (h : x.kids = 0) : rightB [x] = kindB [x] (endsT [x]) 0 x := by
  unfold rightB fitsB
  rw [leaf_inO x h, leaf_deep x h]
  simp [kindsB, List.range, List.range.loop]
theorem leaf_ord (x y : Nd) (hx : x.kids = 0) (hy : y.kids = 0) (wx : x.bits < 2 ^ 64) (wy : y.bits < 2 ^ 64) : ordT [x] [y] = partB x y := by
  rw [leaf_fo x hx, leaf_fo y hy, ord_fo _ _ rfl rfl ?_ ?_]
  · simp only [Fo.cmp]
    by_cases z : partB x y = 0
    · rw [ite_z z, z]; rfl
    · rw [ite_nz z]
  · rw [← leaf_fo x hx]; intro z hz; obtain rfl := List.mem_singleton.1 hz; exact wx
  · rw [← leaf_fo y hy]; intro z hz; obtain rfl := List.mem_singleton.1 hz; exact wy
theorem real_right (a : Nat) : rightB [nR a] = decide (canonB a = a) := by
  rw [leaf_right _ rfl]
  simp [kindB, justB]
theorem real_part (x y : Nat) : partB (nR x) (nR y) = orderB x y := by
  unfold partB
  simp only [cmpI_self]
  rw [ite_z rfl, ite_z rfl]
  by_cases z : orderB x y = 0
  · rw [ite_z z, z]; exact isO_L.self _
  · rw [ite_nz z]
theorem real_ord (x y : Nat) (wx : x < 2 ^ 64) (wy : y < 2 ^ 64) : ordT [nR x] [nR y] = orderB x y := by
  rw [leaf_ord _ _ rfl rfl wx wy, real_part]
theorem real_same (x y : Nat) (wx : x < 2 ^ 64) (wy : y < 2 ^ 64) (cx : canonB x = x) (cy : canonB y = y) : sameT [nR x] [nR y] = decide (x = y) := by
  unfold sameT
  rw [leaf_inO _ rfl, real_ord x y wx wy, Bool.true_and, Bool.eq_iff_iff, beq_iff_eq, decide_eq_true_eq, orderB_zero, pos_canon x y wx wy, cx, cy]
theorem zero_bits (x : Nat) (wx : x < 2 ^ 64) (h : rg x = 0) : x = 0 ∨ x = 9223372036854775808 := by
  unfold rg at h
  omega
/-- What is left where sameness of reals and of terms differ. -/
theorem real_cases (x y : Nat) (wx : x < 2 ^ 64) (wy : y < 2 ^ 64) (cx : canonB x = x) (cy : canonB y = y) :
    sameB x y = decide (x = y) ∨ (x = NAN ∧ y = NAN) ∨ (x ≠ NAN ∧ ((x = 0 ∧ y = 9223372036854775808) ∨ (x = 9223372036854775808 ∧ y = 0))) := by
  by_cases e : x = y
  · subst e
    by_cases nx : isNone x
    · have hx : x = NAN := by rw [← cx]; exact nan_canon x nx
      exact .inr (.inl ⟨hx, hx⟩)
    · left
      rw [decide_eq_true rfl]
      exact (same_pos x x nx nx).2 (.inl rfl)
  · rw [decide_eq_false e]
    cases hs : sameB x y with
    | false => exact .inl rfl
    | true =>
      right; right
      obtain ⟨nx, ny, -⟩ := (same_key x y).1 hs
      have hx : x ≠ NAN := fun h => nx (by rw [h]; exact none_NAN)
      rcases (same_pos x y nx ny).1 hs with h | ⟨h1, h2⟩
      · have := (pos_canon x y wx wy).1 h
        rw [cx, cy] at this
        exact absurd this e
      · refine ⟨hx, ?_⟩
        rcases zero_bits x wx h1 with hx | hx <;> rcases zero_bits y wy h2 with hy | hy
        · exact absurd (hx.trans hy.symm) e
        · exact .inl ⟨hx, hy⟩
        · exact .inr ⟨hx, hy⟩
        · exact absurd (hx.trans hy.symm) e

theorem bits_a : bits .or .u64 0 9223372036854775808 = 9223372036854775808 := by decide +kernel
theorem bits_b : bits .or .u64 9223372036854775808 0 = 9223372036854775808 := by decide +kernel
theorem bits_c : bits .andNot .u64 9223372036854775808 9223372036854775808 = 0 := by decide +kernel
set_option maxRecDepth 100000 in
set_option maxHeartbeats 2000000 in
theorem reals_any (a b : Nat) (ha : a < 2 ^ 64) (hb : b < 2 ^ 64) (w : World) : Calls Try.prog 6 #[.int .u64 a, .int .u64 b] w fun e w' => e = .returned (.bool true) ∧ Below w.heap.size w w' := by
  have hca := fun V => canon_any V a
  have hcb := fun V => canon_any V b
  have cx := canon_right a
  have cy := canon_right b
  have wx := canon_lt a ha
  have wy := canon_lt b hb
  obtain ⟨x, hx⟩ : ∃ x, x = canonB a := ⟨_, rfl⟩
  obtain ⟨y, hy⟩ : ∃ y, y = canonB b := ⟨_, rfl⟩
  rw [← hx] at cx wx
  rw [← hy] at cy wy
  simp only [← hx] at hca
  simp only [← hy] at hcb
  have hra := fun V => right_any V a
  obtain ⟨ra, hrr⟩ : ∃ r, r = decide (canonB a = a) := ⟨_, rfl⟩
  simp only [← hrr] at hra
  have hoc := fun V => order_any V x y
  simp only [ordC_eq x y wx wy] at hoc
  have hsm := fun V => same_any V x y
  obtain ⟨o, ho⟩ : ∃ o, o = orderB x y := ⟨_, rfl⟩
  simp only [← ho] at hoc
  obtain ⟨p, hp⟩ : ∃ p, p = sameB x y := ⟨_, rfl⟩
  simp only [← hp] at hsm
  have hcase := real_cases x y wx wy cx cy
  obtain ⟨q, hq⟩ : ∃ q, q = decide (x = y) := ⟨_, rfl⟩
  rw [← hp, ← hq] at hcase
  have hqb : (((x : Int) == (y : Int)) : Bool) = q := by
    rw [hq, Bool.eq_iff_iff, beq_iff_eq, decide_eq_true_eq]; omega
  have hrs : rightB [nR x] = true := by rw [real_right]; exact decide_eq_true cx
  have hrt : rightB [nR a] = ra := by rw [real_right, hrr]
  have hod : ordT [nR x] [nR y] = o := by rw [real_ord x y wx wy, ho]
  have hsd : sameT [nR x] [nR y] = q := by rw [real_same x y wx wy cx cy, hq]
  have C := Lib.hid (And.intro hca (And.intro hcb (And.intro hra (And.intro hoc hsm))))
  have M := Lib.hid (And.intro hrs (And.intro hrt (And.intro hod (And.intro hsd hcase))))
  have HQ := Lib.hid hqb
  clear hca hcb hra hoc hsm hrs hrt hod hsd hcase hqb hx hy cx cy wx wy hrr ho hp hq ha hb
  go_enter Try.func6, Try.ntmps6
  go_wp2_with fail
  refine (awakeT_any w).mono ?_
  rintro e w1 ⟨rfl, hb1⟩
  have B1 := Lib.hid hb1
  clear hb1
  go_wp2_with fail
  refine (C.out.1 _).mono ?_
  rintro e w2 ⟨rfl, hb2⟩
  have B2 := Lib.hid (B1.out.trans (hb2.mono B1.out.size))
  clear hb2
  go_wp2_with fail
  refine (C.out.2.1 _).mono ?_
  rintro e w3 ⟨rfl, hb3⟩
  have B3 := Lib.hid (B2.out.trans (hb3.mono B2.out.size))
  clear hb3
  go_wp2_with fail
  refine (realT_any w3 x).mono ?_
  rintro e w4 hr4
  obtain ⟨a4, c4, rfl, ht4, hl4, hn4, hb4⟩ := hr4.open
  simp only [List.length_cons, List.length_nil, Nat.zero_add] at hl4 ⊢
  have B4 := Lib.hid (And.intro (B3.out.trans (hb4.mono B3.out.size)) (And.intro ht4 hl4))
  clear hr4 ht4 hl4 hn4 hb4
  go_wp2_with fail
  refine (realT_any w4 y).mono ?_
  rintro e w5 hr5
  obtain ⟨a5, c5, rfl, ht5, hl5, hn5, hb5⟩ := hr5.open
  simp only [List.length_cons, List.length_nil, Nat.zero_add] at hl5 ⊢
  have B5 := Lib.hid (And.intro (B4.out.1.trans (hb5.mono B4.out.1.size)) (And.intro (B4.out.2.1.below hb5 (Nat.le_refl _)) (And.intro ht5 hl5)))
  clear hr5 ht5 hl5 hn5 hb5
  go_upto_region 5 with fail
  have hA : Lies ((w5.alloc (.cells #[.slice a4 1 c4] 24)).alloc (.cells #[.slice a5 1 c5] 24)) w5.heap.size #[.slice a4 1 c4] 24 := (Lies.new _ _ _).alloc _
  have hB : Lies ((w5.alloc (.cells #[.slice a4 1 c4] 24)).alloc (.cells #[.slice a5 1 c5] 24)) (w5.heap.size + 1) #[.slice a5 1 c5] 24 := by
    have := Lies.new (w5.alloc (.cells #[.slice a4 1 c4] 24)) #[.slice a5 1 c5] 24
    simpa using this
  have hb6 : Below w5.heap.size w5 ((w5.alloc (.cells #[.slice a4 1 c4] 24)).alloc (.cells #[.slice a5 1 c5] 24)) := ((Below.refl _ _).alloc (Nat.le_refl _) _).alloc (by simp) _
  generalize ((w5.alloc (.cells #[.slice a4 1 c4] 24)).alloc (.cells #[.slice a5 1 c5] 24)) = W at hA hB hb6 ⊢
  have hS : ∀ V, Below W.heap.size W V → V.cell? ⟨w5.heap.size, 0, none⟩ = some (.slice a4 1 c4) ∧ V.cell? ⟨w5.heap.size + 1, 0, none⟩ = some (.slice a5 1 c5) := fun V hV =>
    ⟨(hA.below hV hA.lt).cell 0 rfl, (hB.below hV hB.lt).cell 0 rfl⟩
  have hTs : ∀ V, Below W.heap.size W V → TAt V a4 [nR x] ∧ TAt V a5 [nR y] := fun V hV =>
    ⟨(B5.out.2.1.below hb6 (Nat.le_refl _)).below hV (Nat.le_refl _), (B5.out.2.2.1.below hb6 (Nat.le_refl _)).below hV (Nat.le_refl _)⟩
  have up : ∀ {V : World} {v : Value}, Below W.heap.size W V → ∀ e w', (e = Ending.returned v ∧ Below V.heap.size V w') → (e = Ending.returned v ∧ Below W.heap.size W w') := fun hV e w' k => ⟨k.1, hV.trans (k.2.mono hV.size)⟩
  have k14 : ∀ V, Below W.heap.size W V → Calls Try.prog 14 #[.agg #[.slice a4 1 c4]] V fun e w' => e = .returned (.bool true) ∧ Below W.heap.size W w' := fun V hV => by
    have := rightT_any V a4 c4 [nR x] (hTs V hV).1 B4.out.2.2
    rw [M.out.1] at this
    exact this.mono (up hV)
  have k13 : ∀ V, Below W.heap.size W V → Calls Try.prog 13 #[.agg #[.slice a4 1 c4], .agg #[.slice a5 1 c5]] V fun e w' => e = .returned (.int .i64 o) ∧ Below W.heap.size W w' := fun V hV => by
    have := orderT_any V a4 a5 c4 c5 _ _ (hTs V hV).1 (hTs V hV).2
    rw [M.out.2.2.1] at this
    exact this.mono (up hV)
  have k17 : ∀ V, Below W.heap.size W V → Calls Try.prog 17 #[.agg #[.slice a4 1 c4], .agg #[.slice a5 1 c5]] V fun e w' => e = .returned (.bool q) ∧ Below W.heap.size W w' := fun V hV => by
    have := sameT_any V a4 a5 c4 c5 _ _ (hTs V hV).1 (hTs V hV).2
    rw [M.out.2.2.2.1] at this
    exact this.mono (up hV)
  have k25 : ∀ V, Below W.heap.size W V → Calls Try.prog 25 #[.int .u64 x, .int .u64 y] V fun e w' => e = .returned (.bool p) ∧ Below W.heap.size W w' := fun V hV => (C.out.2.2.2.2 V).mono (up hV)
  have hbW := B5.out.1.trans (hb6.mono B5.out.1.size)
  have K := Lib.hid (And.intro k14 (And.intro k13 (And.intro k17 (And.intro k25 (And.intro hS (And.intro hbW hTs))))))
  obtain ⟨s4, s5⟩ := hS W (Below.refl _ _)
  clear hA hB hb6 hS hTs up k14 k13 k17 k25 hbW
  go_wp2_with fail
  refine (K.out.1 _ (Below.refl _ _)).mono ?_
  rintro e v1 ⟨rfl, hv1⟩
  have V1 := Lib.hid hv1
  clear hv1
  clear s4 s5
  go_wp2_with fail
  refine (realT_any v1 a).mono ?_
  rintro e v2 hr2
  obtain ⟨a2, c2, rfl, ht2, hl2, hn2, hb2⟩ := hr2.open
  have hv2 := rightT_any v2 a2 c2 [nR a] ht2 hl2
  rw [M.out.2.1] at hv2
  simp only [List.length_cons, List.length_nil, Nat.zero_add] at hv2 ⊢
  have V2 := Lib.hid (And.intro hv2 (V1.out.trans (hb2.mono V1.out.size)))
  clear hr2 ht2 hl2 hn2 hb2 hv2
  go_wp2_with fail
  refine V2.out.1.mono ?_
  rintro e v3 ⟨rfl, hb3⟩
  have V3 := Lib.hid (V2.out.2.trans (hb3.mono V2.out.2.size))
  clear hb3
  go_wp2_with fail
  refine (C.out.2.2.1 _).mono ?_
  rintro e v4 ⟨rfl, hb4⟩
  have V4 := Lib.hid (V3.out.trans (hb4.mono V3.out.size))
  obtain ⟨s4, s5⟩ := K.out.2.2.2.2.1 v4 V4.out
  have hne : (ra != ra) = false := by cases ra <;> rfl
  clear hb4
  go_wp2_with fail
  refine (K.out.2.1 _ V4.out).mono ?_
  rintro e v5 ⟨rfl, hv5⟩
  have V5 := Lib.hid hv5
  clear hv5 s4 s5 hne
  go_wp2_with fail
  refine (C.out.2.2.2.1 _).mono ?_
  rintro e v6 ⟨rfl, hb6⟩
  have V6 := Lib.hid (V5.out.trans (hb6.mono V5.out.size))
  obtain ⟨s4, s5⟩ := K.out.2.2.2.2.1 v6 V6.out
  have hne : (o != o) = false := by simp
  clear hb6
  go_wp2_with fail
  refine (K.out.2.2.1 _ V6.out).mono ?_
  rintro e v7 ⟨rfl, hv7⟩
  have V7 := Lib.hid hv7
  have hne2 : (q != q) = false := by cases q <;> rfl
  have hqb := HQ.out
  clear hv7 s4 s5 hne
  go_upto_region 7 with fail
  clear hne2
  have k17 : ∀ (d : Nat) (os : Array Obj), Calls Try.prog 17 #[.agg #[.slice a4 1 c4], .agg #[.slice a5 1 c5]] (Sort.grow (redrawn v7 d) os) fun e w' => e = .returned (.bool q) ∧ Below (Sort.grow (redrawn v7 d) os).heap.size (Sort.grow (redrawn v7 d) os) w' := fun d os => by
    have hV := V7.out.trans ((below_regrown v7 d os).mono V7.out.size)
    have hTs2 := sameT_any (Sort.grow (redrawn v7 d) os) a4 a5 c4 c5 [nR x] [nR y] (K.out.2.2.2.2.2.2 _ hV).1 (K.out.2.2.2.2.2.2 _ hV).2
    rw [M.out.2.2.2.1] at hTs2
    exact hTs2
  have s45 := K.out.2.2.2.2.1 v7 V7.out
  have r4 := fun d os => cell_regrown s45.1 d os
  have r5 := fun d os => cell_regrown s45.2 d os
  have hcase := M.out.2.2.2.2
  have K17 := Lib.hid k17
  clear k17 s45
  have fin : Hid (∀ w5' : World, (∃ pp : Regrown, w5' = Sort.grow (redrawn v7 pp.d) pp.os) → Below w.heap.size w w5') := Lib.hid (fun w5' ⟨pp, hw5⟩ => by
    rw [hw5]
    have h1 := K.out.2.2.2.2.2.1
    have h2 := h1.trans (V7.out.mono h1.size)
    exact h2.trans ((below_regrown v7 pp.d pp.os).mono h2.size))
  cases p with
  | true =>
    cases q with
    | true =>
      clear hcase
      refine wp_region_quiet_below (by kernel_rfl) (by kernel_rfl) ?_
      iterate 23 (first | go_big_quiet_step (first | (go_at_call 25; exact Calls.regrown_of (C.out.2.2.2.2 _)) | (go_at_call 17; exact Calls.regrown_of (K17.out _ _))) | quiet_step (first | (go_at_call 25; exact Calls.regrown_of (C.out.2.2.2.2 _)) | (go_at_call 17; exact Calls.regrown_of (K17.out _ _))))
      refine wpQuiet_nil ?_
      intro w9 hw9
      have F9 := Lib.hid (fin.out w9 hw9)
      clear hw9
      go_wp2_with fail
      go_ret
      exact ⟨rfl, F9.out⟩
    | false =>
      rcases hcase with hc | ⟨hx, hy⟩ | ⟨hx, hc⟩
      · cases hc
      · have e1 : (((x : Nat) : Int) == 9221120237041090560) = true := by rw [hx]; decide
        have e2 : (((y : Nat) : Int) == 9221120237041090560) = true := by rw [hy]; decide
        clear hx hy
        refine wp_region_quiet_below (by kernel_rfl) (by kernel_rfl) ?_
        iterate 23 (first | go_big_quiet_step (first | (go_at_call 25; exact Calls.regrown_of (C.out.2.2.2.2 _)) | (go_at_call 17; exact Calls.regrown_of (K17.out _ _))) | quiet_step (first | (go_at_call 25; exact Calls.regrown_of (C.out.2.2.2.2 _)) | (go_at_call 17; exact Calls.regrown_of (K17.out _ _))))
        refine wpQuiet_nil ?_
        intro w9 hw9
        have F9 := Lib.hid (fin.out w9 hw9)
        clear hw9
        go_wp2_with fail
        go_ret
        exact ⟨rfl, F9.out⟩
      · have e1 : (((x : Nat) : Int) == 9221120237041090560) = false := by
          rw [beq_eq_false_iff_ne]
          intro h
          exact hx (by unfold NAN; omega)
        have e2 : bits .or .u64 (x : Int) (y : Int) = 9223372036854775808 := by
          rcases hc with ⟨h1, h2⟩ | ⟨h1, h2⟩ <;> rw [h1, h2]
          · exact bits_a
          · exact bits_b
        have e3 := bits_c
        clear hx hc
        refine wp_region_quiet_below (by kernel_rfl) (by kernel_rfl) ?_
        iterate 23 (first | go_big_quiet_step (first | (go_at_call 25; exact Calls.regrown_of (C.out.2.2.2.2 _)) | (go_at_call 17; exact Calls.regrown_of (K17.out _ _))) | quiet_step (first | (go_at_call 25; exact Calls.regrown_of (C.out.2.2.2.2 _)) | (go_at_call 17; exact Calls.regrown_of (K17.out _ _))))
        refine wpQuiet_nil ?_
        intro w9 hw9
        have F9 := Lib.hid (fin.out w9 hw9)
        clear hw9
        go_wp2_with fail
        go_ret
        exact ⟨rfl, F9.out⟩
  | false =>
    cases q with
    | true =>
      rcases hcase with hc | ⟨hx, hy⟩ | ⟨hx, hc⟩
      · cases hc
      · have e1 : (((x : Nat) : Int) == 9221120237041090560) = true := by rw [hx]; decide
        have e2 : (((y : Nat) : Int) == 9221120237041090560) = true := by rw [hy]; decide
        clear hx hy
        refine wp_region_quiet_below (by kernel_rfl) (by kernel_rfl) ?_
        iterate 23 (first | go_big_quiet_step (first | (go_at_call 25; exact Calls.regrown_of (C.out.2.2.2.2 _)) | (go_at_call 17; exact Calls.regrown_of (K17.out _ _))) | quiet_step (first | (go_at_call 25; exact Calls.regrown_of (C.out.2.2.2.2 _)) | (go_at_call 17; exact Calls.regrown_of (K17.out _ _))))
        refine wpQuiet_nil ?_
        intro w9 hw9
        have F9 := Lib.hid (fin.out w9 hw9)
        clear hw9
        go_wp2_with fail
        go_ret
        exact ⟨rfl, F9.out⟩
      · have e1 : (((x : Nat) : Int) == 9221120237041090560) = false := by
          rw [beq_eq_false_iff_ne]
          intro h
          exact hx (by unfold NAN; omega)
        have e2 : bits .or .u64 (x : Int) (y : Int) = 9223372036854775808 := by
          rcases hc with ⟨h1, h2⟩ | ⟨h1, h2⟩ <;> rw [h1, h2]
          · exact bits_a
          · exact bits_b
        have e3 := bits_c
        clear hx hc
        refine wp_region_quiet_below (by kernel_rfl) (by kernel_rfl) ?_
        iterate 23 (first | go_big_quiet_step (first | (go_at_call 25; exact Calls.regrown_of (C.out.2.2.2.2 _)) | (go_at_call 17; exact Calls.regrown_of (K17.out _ _))) | quiet_step (first | (go_at_call 25; exact Calls.regrown_of (C.out.2.2.2.2 _)) | (go_at_call 17; exact Calls.regrown_of (K17.out _ _))))
        refine wpQuiet_nil ?_
        intro w9 hw9
        have F9 := Lib.hid (fin.out w9 hw9)
        clear hw9
        go_wp2_with fail
        go_ret
        exact ⟨rfl, F9.out⟩
    | false =>
      clear hcase
      refine wp_region_quiet_below (by kernel_rfl) (by kernel_rfl) ?_
      iterate 23 (first | go_big_quiet_step (first | (go_at_call 25; exact Calls.regrown_of (C.out.2.2.2.2 _)) | (go_at_call 17; exact Calls.regrown_of (K17.out _ _))) | quiet_step (first | (go_at_call 25; exact Calls.regrown_of (C.out.2.2.2.2 _)) | (go_at_call 17; exact Calls.regrown_of (K17.out _ _))))
      refine wpQuiet_nil ?_
      intro w9 hw9
      have F9 := Lib.hid (fin.out w9 hw9)
      clear hw9
      go_wp2_with fail
      go_ret
      exact ⟨rfl, F9.out⟩
end Go.Proofs.Ytieoiklgoeclaaa
