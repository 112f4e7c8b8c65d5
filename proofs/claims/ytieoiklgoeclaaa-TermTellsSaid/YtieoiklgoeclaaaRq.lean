/-
  The document's own: Order (34), Same (35).
-/
import Derived.Test.YtieoiklgoeclaaaRo
import Derived.Test.YtieoiklgoeclaaaTkg
namespace Go.Proofs.Ytieoiklgoeclaaa
open Go.RowKit

/-- A term with words for reals and texts that are not too long. -/
structure TW (w : World) (a : Option Addr) (xs : List Nd) : Prop where
  tat : TAt w a xs
  words : Words xs
  txt : ∀ x ∈ xs, x.txt.size ≤ 1000000000000000
theorem TW.below {w w' : World} {a : Option Addr} {xs : List Nd} (h : TW w a xs) (hb : Below w.heap.size w w') : TW w' a xs := ⟨h.tat.below hb (Nat.le_refl _), h.words, h.txt⟩
theorem ordIn_of {w : World} {a : Option Addr} (c : Nat) {xs : List Nd} {gE : Nat} {E D : Nat → Nat} (h : TW w a xs) (hl : Laid (ksOf xs) xs.length E D) (hr : Lies w gE (iv xs.length E) 3) : OrdIn w a c xs gE E := by
  have hin : inO xs = true := inOrd_laid hl
  obtain ⟨x0, K, hxs⟩ := tree_fo hin
  refine ⟨h.tat, hr, ⟨D, ?_⟩, h.words, h.txt⟩
  rw [hxs] at hl ⊢
  exact laid_good hl
theorem ordT_tf {xs ys : List Nd} (h1 : inO xs = true) (h2 : inO ys = false) : ordT xs ys = 1 := by simp [ordT, h1, h2]
theorem ordT_ft {xs ys : List Nd} (h1 : inO xs = false) (h2 : inO ys = true) : ordT xs ys = -1 := by simp [ordT, h1, h2]
theorem ordT_ff {xs ys : List Nd} (h1 : inO xs = false) (h2 : inO ys = false) : ordT xs ys = 0 := by simp [ordT, h1, h2]
set_option maxRecDepth 100000 in
set_option maxHeartbeats 1000000 in
theorem rOrder_any (w : World) (a b : Option Addr) (c1 c2 : Nat) (xs ys : List Nd) (hx : TW w a xs) (hy : TW w b ys) :
    Calls Try.prog 34 #[.agg #[.slice a xs.length c1], .agg #[.slice b ys.length c2]] w fun e w' => e = .returned (.int .i64 (ordT xs ys)) ∧ Below w.heap.size w w' := by
  have hA : Lies ((w.alloc (.cells #[.slice a xs.length c1] 24)).alloc (.cells #[.slice b ys.length c2] 24)) w.heap.size #[.slice a xs.length c1] 24 := (Lies.new _ _ _).alloc _
  have hB : Lies ((w.alloc (.cells #[.slice a xs.length c1] 24)).alloc (.cells #[.slice b ys.length c2] 24)) (w.heap.size + 1) #[.slice b ys.length c2] 24 := by
    have := Lies.new (w.alloc (.cells #[.slice a xs.length c1] 24)) #[.slice b ys.length c2] 24
    simpa using this
  have hb0 : Below w.heap.size w ((w.alloc (.cells #[.slice a xs.length c1] 24)).alloc (.cells #[.slice b ys.length c2] 24)) := ((Below.refl _ _).alloc (Nat.le_refl _) _).alloc (by simp) _
  have H := Lib.hid (And.intro hx hy)
  clear hx hy
  go_enter Try.func34, Try.ntmps34
  go_upto_region 1 with fail
  generalize (w.alloc (.cells #[.slice a xs.length c1] 24)).alloc (.cells #[.slice b ys.length c2] 24) = W0 at hA hB hb0 ⊢
  have hS : ∀ V, Below W0.heap.size W0 V → V.cell? ⟨w.heap.size, 0, none⟩ = some (.slice a xs.length c1) ∧ V.cell? ⟨w.heap.size + 1, 0, none⟩ = some (.slice b ys.length c2) ∧ TW V a xs ∧ TW V b ys ∧ Below w.heap.size w V := fun V hV => by
    have hbw := hb0.trans (hV.mono hb0.size)
    exact ⟨(hA.below hV hA.lt).cell 0 rfl, (hB.below hV hB.lt).cell 0 rfl, H.out.1.below hbw, H.out.2.below hbw, hbw⟩
  have HS := Lib.hid hS
  obtain ⟨s1, s2, t1, t2, -⟩ := hS W0 (Below.refl _ _)
  have he1 := ends_any W0 a xs.length c1 (ksOf xs) t1.tat.2.1 t1.tat.ks
  have H1 := Lib.hid he1
  clear hA hB hb0 hS t1 t2 he1
  go_wp2_with fail
  refine H1.out.mono ?_
  rintro e w2 he
  have hb2 : Below W0.heap.size W0 w2 := by
    rcases he with ⟨E, D, gE, hl, rfl, -, -, hb⟩ | ⟨hl, x, m, c, rfl, hb⟩ <;> exact hb
  obtain ⟨u1, u2, t1, t2, -⟩ := HS.out w2 hb2
  have he2 := ends_any w2 b ys.length c2 (ksOf ys) t2.tat.2.1 t2.tat.ks
  have H2 := Lib.hid (And.intro he2 hb2)
  clear he2 t1 t2 s1 s2 hb2
  rcases he with ⟨E, D, gE, hl, rfl, -, hr1, hb⟩ | ⟨hl, x, m, c, rfl, hb⟩
  · have HL1 := Lib.hid (And.intro hl hr1)
    clear hl hr1 hb
    go_wp2_with fail
    refine H2.out.1.mono ?_
    rintro e w3 (⟨F, D', gF, hl2, rfl, -, hr2, hb3⟩ | ⟨hl2, x, m, c, rfl, hb3⟩)
    · have hb03 := H2.out.2.trans (hb3.mono H2.out.2.size)
      obtain ⟨v1, v2, t1, t2, hbw3⟩ := HS.out w3 hb03
      have i1 : inO xs = true := inOrd_laid HL1.out.1
      have i2 : inO ys = true := inOrd_laid hl2
      have o1 := ordIn_of c1 t1 HL1.out.1 (HL1.out.2.below hb3 HL1.out.2.lt)
      have o2 := ordIn_of c2 t2 hl2 hr2
      obtain ⟨x0, K, hxs⟩ := tree_fo i1
      obtain ⟨y0, L, hys⟩ := tree_fo i2
      have a1 : AtFo xs 0 x0 K [] := by unfold AtFo; rw [hxs]; simp [Fo.flat]
      have a2 : AtFo ys 0 y0 L [] := by unfold AtFo; rw [hys]; simp [Fo.flat]
      have hc := rord_at (K.len + 1) w3 a b c1 c2 xs ys gE gF E F 0 0 x0 y0 K L [] [] (Nat.lt_succ_self _) o1 o2 a1 a2
      have hval : (Fo.cons x0 K .nil).cmp (.cons y0 L .nil) = ordT xs ys := by
        have wx := t1.words
        have wy := t2.words
        rw [hxs] at wx
        rw [hys] at wy
        rw [hxs, hys]
        exact (ord_fo _ _ rfl rfl wx wy).symm
      rw [hval] at hc
      have HC := Lib.hid (And.intro hc hbw3)
      clear hc hbw3 hval a1 a2 hxs hys o1 o2 i1 i2 t1 t2 hl2 hr2 hb3 hb03 u1 u2
      go_wp2_with fail
      refine HC.out.1.mono ?_
      rintro e w4 ⟨rfl, hb4⟩
      have HF := Lib.hid (HC.out.2.trans (hb4.mono HC.out.2.size))
      clear hb4 v1 v2
      go_wp2_with fail
      go_ret
      exact ⟨rfl, HF.out⟩
    · have hbw3 := (HS.out w3 (H2.out.2.trans (hb3.mono H2.out.2.size))).2.2.2.2
      have e : ordT xs ys = 1 := ordT_tf (inOrd_laid HL1.out.1) (inOrd_none hl2)
      have HF := Lib.hid (And.intro e hbw3)
      clear e hbw3 hl2 hb3 u1 u2
      go_wp2_with fail
      go_ret
      exact ⟨by rw [HF.out.1]; rfl, HF.out.2⟩
  · have HL1 := Lib.hid hl
    clear hl hb
    go_wp2_with fail
    refine H2.out.1.mono ?_
    rintro e w3 (⟨F, D', gF, hl2, rfl, -, hr2, hb3⟩ | ⟨hl2, x, m, c, rfl, hb3⟩)
    · have hbw3 := (HS.out w3 (H2.out.2.trans (hb3.mono H2.out.2.size))).2.2.2.2
      have e : ordT xs ys = -1 := ordT_ft (inOrd_none HL1.out) (inOrd_laid hl2)
      have HF := Lib.hid (And.intro e hbw3)
      clear e hbw3 hl2 hb3 u1 u2 hr2
      go_wp2_with fail
      go_ret
      exact ⟨by rw [HF.out.1]; rfl, HF.out.2⟩
    · have hbw3 := (HS.out w3 (H2.out.2.trans (hb3.mono H2.out.2.size))).2.2.2.2
      have e : ordT xs ys = 0 := ordT_ff (inOrd_none HL1.out) (inOrd_none hl2)
      have HF := Lib.hid (And.intro e hbw3)
      clear e hbw3 hl2 hb3 u1 u2
      go_wp2_with fail
      go_ret
      exact ⟨by rw [HF.out.1]; rfl, HF.out.2⟩
set_option maxRecDepth 100000 in
set_option maxHeartbeats 1000000 in
theorem rSame_any (w : World) (a b : Option Addr) (c1 c2 : Nat) (xs ys : List Nd) (hx : TW w a xs) (hy : TW w b ys) :
    Calls Try.prog 35 #[.agg #[.slice a xs.length c1], .agg #[.slice b ys.length c2]] w fun e w' => e = .returned (.bool (sameT xs ys)) ∧ Below w.heap.size w w' := by
  have hA : Lies ((w.alloc (.cells #[.slice a xs.length c1] 24)).alloc (.cells #[.slice b ys.length c2] 24)) w.heap.size #[.slice a xs.length c1] 24 := (Lies.new _ _ _).alloc _
  have hB : Lies ((w.alloc (.cells #[.slice a xs.length c1] 24)).alloc (.cells #[.slice b ys.length c2] 24)) (w.heap.size + 1) #[.slice b ys.length c2] 24 := by
    have := Lies.new (w.alloc (.cells #[.slice a xs.length c1] 24)) #[.slice b ys.length c2] 24
    simpa using this
  have hb0 : Below w.heap.size w ((w.alloc (.cells #[.slice a xs.length c1] 24)).alloc (.cells #[.slice b ys.length c2] 24)) := ((Below.refl _ _).alloc (Nat.le_refl _) _).alloc (by simp) _
  have H := Lib.hid (And.intro hx hy)
  clear hx hy
  go_enter Try.func35, Try.ntmps35
  go_upto_region 1 with fail
  generalize (w.alloc (.cells #[.slice a xs.length c1] 24)).alloc (.cells #[.slice b ys.length c2] 24) = W0 at hA hB hb0 ⊢
  have hS : ∀ V, Below W0.heap.size W0 V → V.cell? ⟨w.heap.size, 0, none⟩ = some (.slice a xs.length c1) ∧ V.cell? ⟨w.heap.size + 1, 0, none⟩ = some (.slice b ys.length c2) ∧ TW V a xs ∧ TW V b ys := fun V hV => by
    have hbw := hb0.trans (hV.mono hb0.size)
    exact ⟨(hA.below hV hA.lt).cell 0 rfl, (hB.below hV hB.lt).cell 0 rfl, H.out.1.below hbw, H.out.2.below hbw⟩
  obtain ⟨s1, s2, -, -⟩ := hS W0 (Below.refl _ _)
  obtain ⟨ix, hix⟩ : ∃ i, i = inO xs := ⟨_, rfl⟩
  obtain ⟨iy, hiy⟩ : ∃ i, i = inO ys := ⟨_, rfl⟩
  obtain ⟨r, hr⟩ : ∃ i, i = ordT xs ys := ⟨_, rfl⟩
  have hq1 : ∀ V, Below W0.heap.size W0 V → Calls Try.prog 66 #[.agg #[.slice a xs.length c1]] V fun e w' => e = .returned (.bool ix) ∧ Below W0.heap.size W0 w' := fun V hV => (rinO_any V a xs.length c1 (ksOf xs) (hS V hV).2.2.1.tat.2.1 (hS V hV).2.2.1.tat.ks).mono fun e w' h => ⟨by rw [hix]; exact h.1, hV.trans (h.2.mono hV.size)⟩
  have hq2 : ∀ V, Below W0.heap.size W0 V → Calls Try.prog 66 #[.agg #[.slice b ys.length c2]] V fun e w' => e = .returned (.bool iy) ∧ Below W0.heap.size W0 w' := fun V hV => (rinO_any V b ys.length c2 (ksOf ys) (hS V hV).2.2.2.tat.2.1 (hS V hV).2.2.2.tat.ks).mono fun e w' h => ⟨by rw [hiy]; exact h.1, hV.trans (h.2.mono hV.size)⟩
  have hq3 : ∀ V, Below W0.heap.size W0 V → Calls Try.prog 34 #[.agg #[.slice a xs.length c1], .agg #[.slice b ys.length c2]] V fun e w' => e = .returned (.int .i64 r) ∧ Below W0.heap.size W0 w' := fun V hV => (rOrder_any V a b c1 c2 xs ys (hS V hV).2.2.1 (hS V hV).2.2.2).mono fun e w' h => ⟨by rw [hr]; exact h.1, hV.trans (h.2.mono hV.size)⟩
  have hR : sameT xs ys = (ix && (iy && r == 0)) := by
    unfold sameT
    rw [hix, hiy, hr]
    cases h1 : inO xs with
    | false => rfl
    | true =>
      cases h2 : inO ys with
      | false => rw [ordT_tf h1 h2]; rfl
      | true => rfl
  have HR := Lib.hid hR
  have HB0 := Lib.hid hb0
  have HS := Lib.hid hS
  have HQ := Lib.hid (And.intro hq1 (And.intro hq2 hq3))
  clear hA hB hb0 hS hq1 hq2 hq3 hix hiy hr hR
  cases ix with
  | false =>
    go_wp2_with fail
    refine (HQ.out.1 _ (Below.refl _ _)).mono ?_
    rintro e w1 ⟨rfl, hb1⟩
    have HB1 := Lib.hid hb1
    clear hb1 s1 s2
    go_wp2_with fail
    go_ret
    exact ⟨by rw [HR.out]; rfl, HB0.out.trans (HB1.out.mono HB0.out.size)⟩
  | true =>
    go_wp2_with fail
    refine (HQ.out.1 _ (Below.refl _ _)).mono ?_
    rintro e w1 ⟨rfl, hb1⟩
    obtain ⟨u1, u2, -, -⟩ := HS.out _ hb1
    have HB1 := Lib.hid hb1
    clear hb1 s1 s2
    cases iy with
    | false =>
      go_wp2_with fail
      refine (HQ.out.2.1 _ HB1.out).mono ?_
      rintro e w2 ⟨rfl, hb2⟩
      have HB2 := Lib.hid hb2
      clear hb2 u1 u2
      go_wp2_with fail
      go_ret
      exact ⟨by rw [HR.out]; rfl, HB0.out.trans (HB2.out.mono HB0.out.size)⟩
    | true =>
      go_wp2_with fail
      refine (HQ.out.2.1 _ HB1.out).mono ?_
      rintro e w2 ⟨rfl, hb2⟩
      obtain ⟨v1, v2, -, -⟩ := HS.out _ hb2
      have HB2 := Lib.hid hb2
      clear hb2 u1 u2
      go_wp2_with fail
      refine (HQ.out.2.2 _ HB2.out).mono ?_
      rintro e w3 ⟨rfl, hb3⟩
      have HB3 := Lib.hid hb3
      clear hb3 v1 v2
      have hz : ((0 : Int) == 0) = true := by rfl
      by_cases h0 : r = 0
      · subst h0
        go_wp2_with fail
        go_ret
        exact ⟨by rw [HR.out]; rfl, HB0.out.trans (HB3.out.mono HB0.out.size)⟩
      · have h1 : (r == 0) = false := by simpa using h0
        rw [h1] at HR
        go_wp2_with fail
        go_ret
        exact ⟨by rw [HR.out]; rfl, HB0.out.trans (HB3.out.mono HB0.out.size)⟩
end Go.Proofs.Ytieoiklgoeclaaa
