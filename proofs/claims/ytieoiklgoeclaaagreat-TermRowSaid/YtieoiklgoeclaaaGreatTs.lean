/-
  Order (13) and Same (17).
-/
import Derived.Test.YtieoiklgoeclaaaGreatTq
namespace Go.Proofs.YtieoiklgoeclaaaGreat
open Go.RowKit

theorem inO_any (w : World) (a : Option Addr) (nc : Nat) (xs : List Nd) (h : TAt w a xs) :
    Calls Tryz.prog 17 #[.agg #[.slice a xs.length nc]] w fun e w' => e = .returned (.bool (inO xs)) ∧ Below w.heap.size w w' :=
  inorder_any w a xs.length nc (ksOf xs) h.2.1 h.ks
set_option maxRecDepth 100000 in
set_option maxHeartbeats 1000000 in
theorem orderT_any (w : World) (a b : Option Addr) (c1 c2 : Nat) (xs ys : List Nd) (hx : TAt w a xs) (hy : TAt w b ys) :
    Calls Tryz.prog 5 #[.agg #[.slice a xs.length c1], .agg #[.slice b ys.length c2]] w fun e w' => e = .returned (.int .i64 (ordT xs ys)) ∧ Below w.heap.size w w' := by
  have hA : Lies ((w.alloc (.cells #[.slice a xs.length c1] 27)).alloc (.cells #[.slice b ys.length c2] 27)) w.heap.size #[.slice a xs.length c1] 27 := (Lies.new _ _ _).alloc _
  have hB : Lies ((w.alloc (.cells #[.slice a xs.length c1] 27)).alloc (.cells #[.slice b ys.length c2] 27)) (w.heap.size + 1) #[.slice b ys.length c2] 27 := by
    have := Lies.new (w.alloc (.cells #[.slice a xs.length c1] 27)) #[.slice b ys.length c2] 27
    simpa using this
  have hb0 : Below w.heap.size w ((w.alloc (.cells #[.slice a xs.length c1] 27)).alloc (.cells #[.slice b ys.length c2] 27)) := ((Below.refl _ _).alloc (Nat.le_refl _) _).alloc (by simp) _
  have H := Lib.hid (And.intro hx hy)
  clear hx hy
  go_enter Tryz.func5, Tryz.ntmps5
  go_upto_region 1 with fail
  generalize (w.alloc (.cells #[.slice a xs.length c1] 27)).alloc (.cells #[.slice b ys.length c2] 27) = W0 at hA hB hb0 ⊢
  have hS : ∀ V, Below W0.heap.size W0 V → V.cell? ⟨w.heap.size, 0, none⟩ = some (.slice a xs.length c1) ∧ V.cell? ⟨w.heap.size + 1, 0, none⟩ = some (.slice b ys.length c2) ∧ TAt V a xs ∧ TAt V b ys := fun V hV => by
    have hbw := hb0.trans (hV.mono hb0.size)
    exact ⟨(hA.below hV hA.lt).cell 0 rfl, (hB.below hV hB.lt).cell 0 rfl, H.out.1.below hbw (Nat.le_refl _), H.out.2.below hbw (Nat.le_refl _)⟩
  obtain ⟨s1, s2, -, -⟩ := hS W0 (Below.refl _ _)
  have hq1 : ∀ V, Below W0.heap.size W0 V → Calls Tryz.prog 17 #[.agg #[.slice a xs.length c1]] V fun e w' => e = .returned (.bool (inO xs)) ∧ Below W0.heap.size W0 w' := fun V hV => (inO_any V a c1 xs (hS V hV).2.2.1).mono fun e w' h => ⟨h.1, hV.trans (h.2.mono hV.size)⟩
  have hq2 : ∀ V, Below W0.heap.size W0 V → Calls Tryz.prog 17 #[.agg #[.slice b ys.length c2]] V fun e w' => e = .returned (.bool (inO ys)) ∧ Below W0.heap.size W0 w' := fun V hV => (inO_any V b c2 ys (hS V hV).2.2.2).mono fun e w' h => ⟨h.1, hV.trans (h.2.mono hV.size)⟩
  have HB0 := Lib.hid hb0
  have HS := Lib.hid hS
  have HQ := Lib.hid (And.intro hq1 hq2)
  have hd0 : Below W0.heap.size W0 W0.drew := (Below.refl _ _).drew
  clear hA hB hb0 hS hq1 hq2
  go_region_held3 (fun V => V.cell? ⟨w.heap.size, 0, none⟩ = some (.slice a xs.length c1) ∧ V.cell? ⟨w.heap.size + 1, 0, none⟩ = some (.slice b ys.length c2) ∧ Below W0.heap.size W0 V)
    (first | exact ⟨s1, s2, hd0⟩ | exact ⟨(HS.out _ (by assumption)).1, (HS.out _ (by assumption)).2.1, by assumption⟩)
    (first
      | (with_reducible refine (HQ.out.1 _ (by assumption)).mono ?_; rintro e w1 ⟨rfl, hb1⟩)
      | (with_reducible refine (HQ.out.2 _ (by assumption)).mono ?_; rintro e w1 ⟨rfl, hb2⟩))
  clear s1 s2 hd0
  obtain ⟨ix, hix⟩ : ∃ i, i = inO xs := ⟨_, rfl⟩
  obtain ⟨iy, hiy⟩ : ∃ i, i = inO ys := ⟨_, rfl⟩
  rw [← hix, ← hiy]
  have HI := Lib.hid (And.intro hix hiy)
  have HB2 := Lib.hid hb2
  clear hix hiy hb1 hb2
  cases ix with
  | false =>
    cases iy with
    | false =>
      have e : ordT xs ys = 0 := by unfold ordT; rw [← HI.out.1, ← HI.out.2]; rfl
      go_wp2_with fail
      go_ret
      exact ⟨by rw [e]; rfl, HB0.out.trans (HB2.out.mono HB0.out.size)⟩
    | true =>
      have e : ordT xs ys = -1 := by unfold ordT; rw [← HI.out.1, ← HI.out.2]; rfl
      go_wp2_with fail
      go_ret
      exact ⟨by rw [e]; rfl, HB0.out.trans (HB2.out.mono HB0.out.size)⟩
  | true =>
    cases iy with
    | false =>
      have e : ordT xs ys = 1 := by unfold ordT; rw [← HI.out.1, ← HI.out.2]; rfl
      go_wp2_with fail
      go_ret
      exact ⟨by rw [e]; rfl, HB0.out.trans (HB2.out.mono HB0.out.size)⟩
    | true =>
      obtain ⟨t1, t2, t3, t4⟩ := HS.out _ HB2.out
      obtain ⟨E1, D1, l1⟩ := inO_laid HI.out.1.symm
      obtain ⟨E2, D2, l2⟩ := inO_laid HI.out.2.symm
      obtain ⟨g1, o1, rfl, n1⟩ := t3.1 l1.1
      obtain ⟨g2, o2, rfl, n2⟩ := t4.1 l2.1
      have hc := ahead_any w1 g1 o1 c1 g2 o2 c2 xs ys _ n1 n2 t3.2.1 t4.2.1 (kidsIn_of l1 t3.2.1) (kidsIn_of l2 t4.2.1) (ord_two HI.out.1.symm HI.out.2.symm)
      have HC := Lib.hid hc
      clear hc l1 l2 n1 n2 t3 t4
      go_wp2_with fail
      refine HC.out.mono ?_
      rintro e w5 ⟨rfl, hb5⟩
      have HB5 := Lib.hid (HB0.out.trans ((HB2.out.trans (hb5.mono HB2.out.size)).mono HB0.out.size))
      clear hb5 t1 t2
      go_wp2_with fail
      go_ret
      exact ⟨rfl, HB5.out⟩
set_option maxRecDepth 100000 in
set_option maxHeartbeats 1000000 in
theorem sameT_any (w : World) (a b : Option Addr) (c1 c2 : Nat) (xs ys : List Nd) (hx : TAt w a xs) (hy : TAt w b ys) :
    Calls Tryz.prog 25 #[.agg #[.slice a xs.length c1], .agg #[.slice b ys.length c2]] w fun e w' => e = .returned (.bool (sameT xs ys)) ∧ Below w.heap.size w w' := by
  have hA : Lies ((w.alloc (.cells #[.slice a xs.length c1] 27)).alloc (.cells #[.slice b ys.length c2] 27)) w.heap.size #[.slice a xs.length c1] 27 := (Lies.new _ _ _).alloc _
  have hB : Lies ((w.alloc (.cells #[.slice a xs.length c1] 27)).alloc (.cells #[.slice b ys.length c2] 27)) (w.heap.size + 1) #[.slice b ys.length c2] 27 := by
    have := Lies.new (w.alloc (.cells #[.slice a xs.length c1] 27)) #[.slice b ys.length c2] 27
    simpa using this
  have hb0 : Below w.heap.size w ((w.alloc (.cells #[.slice a xs.length c1] 27)).alloc (.cells #[.slice b ys.length c2] 27)) := ((Below.refl _ _).alloc (Nat.le_refl _) _).alloc (by simp) _
  have H := Lib.hid (And.intro hx hy)
  clear hx hy
  go_enter Tryz.func25, Tryz.ntmps25
  go_upto_region 1 with fail
  generalize (w.alloc (.cells #[.slice a xs.length c1] 27)).alloc (.cells #[.slice b ys.length c2] 27) = W0 at hA hB hb0 ⊢
  have hS : ∀ V, Below W0.heap.size W0 V → V.cell? ⟨w.heap.size, 0, none⟩ = some (.slice a xs.length c1) ∧ V.cell? ⟨w.heap.size + 1, 0, none⟩ = some (.slice b ys.length c2) ∧ TAt V a xs ∧ TAt V b ys := fun V hV => by
    have hbw := hb0.trans (hV.mono hb0.size)
    exact ⟨(hA.below hV hA.lt).cell 0 rfl, (hB.below hV hB.lt).cell 0 rfl, H.out.1.below hbw (Nat.le_refl _), H.out.2.below hbw (Nat.le_refl _)⟩
  obtain ⟨s1, s2, -, -⟩ := hS W0 (Below.refl _ _)
  obtain ⟨ix, hix⟩ : ∃ i, i = inO xs := ⟨_, rfl⟩
  obtain ⟨r, hr⟩ : ∃ i, i = ordT xs ys := ⟨_, rfl⟩
  have hq1 : ∀ V, Below W0.heap.size W0 V → Calls Tryz.prog 17 #[.agg #[.slice a xs.length c1]] V fun e w' => e = .returned (.bool ix) ∧ Below W0.heap.size W0 w' := fun V hV => (inO_any V a c1 xs (hS V hV).2.2.1).mono fun e w' h => ⟨by rw [hix]; exact h.1, hV.trans (h.2.mono hV.size)⟩
  have hq2 : ∀ V, Below W0.heap.size W0 V → Calls Tryz.prog 5 #[.agg #[.slice a xs.length c1], .agg #[.slice b ys.length c2]] V fun e w' => e = .returned (.int .i64 r) ∧ Below W0.heap.size W0 w' := fun V hV => (orderT_any V a b c1 c2 xs ys (hS V hV).2.2.1 (hS V hV).2.2.2).mono fun e w' h => ⟨by rw [hr]; exact h.1, hV.trans (h.2.mono hV.size)⟩
  have HR := Lib.hid (show sameT xs ys = (ix && r == 0) by unfold sameT; rw [hix, hr])
  have HB0 := Lib.hid hb0
  have HS := Lib.hid hS
  have HQ := Lib.hid (And.intro hq1 hq2)
  have hd0 : Below W0.heap.size W0 W0.drew := (Below.refl _ _).drew
  clear hA hB hb0 hS hq1 hq2 hix hr
  cases ix with
  | false =>
    go_wp2_with fail
    refine (HQ.out.1 _ (Below.refl _ _)).mono ?_
    rintro e w1 ⟨rfl, hb1⟩
    have HB1 := Lib.hid hb1
    clear hb1 s1 s2 hd0
    go_wp2_with fail
    go_ret
    exact ⟨by rw [HR.out]; rfl, HB0.out.trans (HB1.out.mono HB0.out.size)⟩
  | true =>
    go_wp2_with fail
    refine (HQ.out.1 _ (Below.refl _ _)).mono ?_
    rintro e w1 ⟨rfl, hb1⟩
    obtain ⟨u1, u2, -, -⟩ := HS.out _ hb1
    have HB1 := Lib.hid hb1
    clear hb1 s1 s2 hd0
    go_wp2_with fail
    refine (HQ.out.2 _ HB1.out).mono ?_
    rintro e w2 ⟨rfl, hb2⟩
    have HB2 := Lib.hid hb2
    clear hb2 u1 u2
    have hz : ((0 : Int) == 0) = true := by rfl
    by_cases h0 : r = 0
    · subst h0
      go_wp2_with fail
      go_ret
      exact ⟨by rw [HR.out]; rfl, HB0.out.trans (HB2.out.mono HB0.out.size)⟩
    · have h1 : (r == 0) = false := by simpa using h0
      rw [h1] at HR
      go_wp2_with fail
      go_ret
      exact ⟨by rw [HR.out]; rfl, HB0.out.trans (HB2.out.mono HB0.out.size)⟩
end Go.Proofs.YtieoiklgoeclaaaGreat
