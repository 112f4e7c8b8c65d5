/-
  Whether a term is in order (37), how deep it is (16).
-/
import Derived.Test.YtilbbemdinpjcaaGreatJTTla
import Derived.Laws.ResultCell
set_option maxHeartbeats 16000000
namespace Go.Proofs.YtilbbemdinpjcaaGreat.T
open Go.RowKit
def KsAt (w : World) (a : Option Addr) (n : Nat) (ks : Nat → Int) : Prop :=
 ∀ i, i < n → ∃ g off, a = some ⟨g, off, none⟩ ∧ g < w.heap.size ∧ w.cell? ⟨g, off + i * 5 + 4, none⟩ = some (.int .i64 (ks i)) ∧ ks i ≤ 9223372036854775807
theorem KsAt.below {B : Nat} {w w' : World} {a : Option Addr} {n : Nat} {ks : Nat → Int} (h : KsAt w a n ks) (hb : Below B w w') (hB : w.heap.size ≤ B) : KsAt w' a n ks := fun i hi => by
 obtain ⟨g, off, h1, h2, h3, h4⟩ := h i hi
 exact ⟨g, off, h1, Nat.lt_of_lt_of_le h2 hb.size, (hb.cell (p := ⟨g, off + i * 5 + 4, none⟩) (Nat.lt_of_lt_of_le h2 hB)).trans h3, h4⟩
def Laid (ks : Nat → Int) (n : Nat) (E D : Nat → Nat) : Prop := 0 < n ∧ layN ks n n = some (E, D) ∧ E 0 = n
set_option maxRecDepth 100000 in
theorem laid_ok (a : Option Addr) (n nc : Nat) (ks : Nat → Int) (E D : Nat → Nat) (w : World) (hn : n ≤ 1000000) (hk : KsAt w a n ks) (hl : Laid ks n E D) :
  Calls Tryz.prog 243 #[.agg #[.slice a n nc]] w fun e w' => ∃ gE gD, e = .returned (.agg (layV a n nc gE gD)) ∧ w.heap.size ≤ gE ∧ w.heap.size ≤ gD ∧ Lies w' gE (iv n E) 3 ∧ Lies w' gD (iv n D) 3 ∧ Below w.heap.size w w' := by
 have H := Lib.hid (And.intro hn (And.intro hk hl))
 have n1 : (n : Int) ≤ 1000000 := by omega
 have n0 : (0 : Int) ≤ (n : Int) := by omega
 clear hn hk hl
 go_enter Tryz.func243, Tryz.ntmps243
 go_upto_region 1 with fail
 have hA : Lies ((w.alloc (.cells #[.slice a n nc] 24)).alloc (.cells #[.slice none 0 0, .slice none 0 0, .slice none 0 0] 279)) w.heap.size #[.slice a n nc] 24 := (Lies.new _ _ _).alloc _
 have hB : Lies ((w.alloc (.cells #[.slice a n nc] 24)).alloc (.cells #[.slice none 0 0, .slice none 0 0, .slice none 0 0] 279)) (w.heap.size + 1) #[.slice none 0 0, .slice none 0 0, .slice none 0 0] 279 := by
  have := Lies.new (w.alloc (.cells #[.slice a n nc] 24)) #[.slice none 0 0, .slice none 0 0, .slice none 0 0] 279
  simpa using this
 have hb0 : Below w.heap.size w ((w.alloc (.cells #[.slice a n nc] 24)).alloc (.cells #[.slice none 0 0, .slice none 0 0, .slice none 0 0] 279)) := ((Below.refl _ _).alloc (Nat.le_refl _) _).alloc (by simp) _
 have c0 := hA.cell 0 (v := .slice a n nc) rfl
 have H0 := Lib.hid (And.intro hA (And.intro hB hb0))
 clear hA hB hb0
 generalize (w.alloc (.cells #[.slice a n nc] 24)).alloc (.cells #[.slice none 0 0, .slice none 0 0, .slice none 0 0] 279) = W0 at H0 c0 ⊢
 go_upto_region 2 with fail
 clear c0
 refine wp_region_held (S := Below W0.heap.size W0) (by kernel_rfl) ?_
 change wpAnyH _ _ _ _ _ 9 _ _ (World.drew W0)
 have hcur : Below W0.heap.size W0 W0.drew := (Below.refl _ _).drew
 refine held_take (i := 0) (v := .pointer (some ⟨w.heap.size, 0, none⟩)) rfl 9 rfl (by kernel_rfl) (by kernel_rfl) (by kernel_rfl) (fun _ _ _ h => h) (by rfl) (by intro w' hS'; unfold execOp; simp [go_sem]) hcur _ rfl ?_
 simp only [Act.put, List.setIfInBounds_toArray, List.set_cons_zero, List.set_cons_succ]
 refine held_take (i := 1) (v := .slice a n nc) rfl 10 rfl (by kernel_rfl) (by kernel_rfl) (by kernel_rfl) (fun _ _ _ h => h) (by rfl) (by intro w' hS'; have h1 := (H0.out.1.below hS' H0.out.1.lt).cell 0 (v := .slice a n nc) rfl; unfold execOp; simp [go_sem, h1]) hcur _ rfl ?_
 simp only [Act.put, List.setIfInBounds_toArray, List.set_cons_zero, List.set_cons_succ]
 refine held_take (i := 2) (v := .int .i64 n) rfl 11 rfl (by kernel_rfl) (by kernel_rfl) (by kernel_rfl) (fun _ _ _ h => h) (by rfl) (by intro w' hS'; unfold execOp; simp [go_sem]) hcur _ rfl ?_
 simp only [Act.put, List.setIfInBounds_toArray, List.set_cons_zero, List.set_cons_succ]
 refine held_take (i := 4) (v := .int .i64 n) rfl 13 rfl (by kernel_rfl) (by kernel_rfl) (by kernel_rfl) (fun _ _ _ h => h) (by rfl) (by intro w' hS'; unfold execOp; simp [go_sem]) hcur _ rfl ?_
 simp only [Act.put, List.setIfInBounds_toArray, List.set_cons_zero, List.set_cons_succ]
 have hmk := fun V => mk_ints n H.out.1 V
 refine mk_any W0 n nc a H.out.1 _ (by show (12 : Nat) < 37; decide) (by show (14 : Nat) < 37; decide) (by show (15 : Nat) < 37; decide) (by show (4 : Nat) < 37; decide) _ _ _ _ _
  rfl rfl rfl (fun _ _ _ _ V => by unfold execOp; simp [put4, Act.put, Act.eval, go_sem, hmk]) rfl rfl rfl (fun _ _ _ _ V => by unfold execOp; simp [put4, Act.put, Act.eval, go_sem, hmk]) rfl rfl rfl (fun _ _ _ _ V => by kernel_rfl) rfl rfl rfl rfl rfl rfl rfl rfl (by kernel_rfl) ?hQ _ hcur
 intro v1 v2 v3 gE gD g4 W2 b1 b2 b4 hne y1 y2 y4 hb2
 simp only [put4, Act.put, List.setIfInBounds_toArray, List.set_cons_zero, List.set_cons_succ]
 go_wp2_with fail
 have HW := Lib.hid (And.intro b1 (And.intro b2 (And.intro b4 (And.intro hne (And.intro y4 hb2)))))
 have hkw : ∀ V, Below W0.heap.size W0 V → KsAt V a n ks := fun V hV => (H.out.2.1.below H0.out.2.2 (Nat.le_refl _)).below hV (Nat.le_refl _)
 have HK := Lib.hid hkw
 have HY := Lib.hid (And.intro y1 y2)
 have HSZ := Lib.hid (And.intro y1 y2)
 clear b1 b2 b4 hne y1 y2 y4 hb2 hcur hmk hkw
 go_loopw [5] (fun i W => ∃ j : Nat, j ≤ n ∧ i = .int .i64 ((n : Int) - 1 - j) ∧ ∃ E1 D1, layN ks n j = some (E1, D1) ∧ Lies W gE (iv n E1) 3 ∧ Lies W gD (iv n D1) 3 ∧ Lies W g4 (layV a n nc gE gD) 279 ∧ Below W0.heap.size W0 W) (fun i _ => (intOf i + 1).toNat)
 case atStart => exact ⟨0, by omega, by simp, _, _, rfl, HY.out.1, HY.out.2, HW.out.2.2.2.2.1, HW.out.2.2.2.2.2⟩
 case round =>
  clear HY
  obtain ⟨j, hj, rfl, E1, D1, hlay, z1, z2, z4, hbr⟩ := hrel
  by_cases hlt : j < n
  ·
   obtain ⟨i, hi⟩ : ∃ i, i = n - 1 - j := ⟨_, rfl⟩
   have ei : (n : Int) - 1 - (j : Int) = (i : Int) := by omega
   rw [ei]
   obtain ⟨E2, D2, hl2⟩ := layN_prev n (j + 1) _ H.out.2.2.2.1 (by omega)
   obtain ⟨hk0, at', m', hwk, rfl, rfl⟩ := layN_succ hlay hl2
   rw [← hi] at hk0 hwk hl2
   obtain ⟨g, off, rfl, hg, hc, hk63⟩ := HK.out _ hbr i (by omega)
   have hinv := layN_inv ks n j E1 D1 hj hlay
   have hset := set_ok n g off nc gE n gD n i at' m' (ks i) E1 D1 wr (by omega) hc hg z1 z2 HW.out.2.2.2.1 H.out.1 hinv.1 hinv.2.1 hk0 hk63 hwk
   have c0 := z4.cell 0 (v := .slice (some ⟨g, off, none⟩) n nc) rfl
   have c1 := z4.cell 1 (v := .slice (some ⟨gE, 0, none⟩) n n) rfl
   have c2 := z4.cell 2 (v := .slice (some ⟨gD, 0, none⟩) n n) rfl
   have HS := Lib.hid (And.intro hset (And.intro hl2 (And.intro z4 (And.intro hbr (And.intro hi (And.intro hlt hj))))))
   have i0 : (0 : Int) ≤ (i : Int) := by omega
   clear hset hl2 z1 z2 z4 hbr hi hlt hj hk0 hwk hg hc hk63 hinv hlay ei
   go_wp2_with fail
   refine HS.out.1.mono ?_
   rintro e w5 ⟨rfl, y1, y2, hbel, hoth⟩
   have hb5 := hbel W0.heap.size HW.out.1 HW.out.2.1
   have h4 : Lies w5 g4 (layV (some ⟨g, off, none⟩) n nc gE gD) 279 := (hoth g4 HS.out.2.2.1.lt (HW.out.2.2.2.2.1.apart HSZ.out.1 (by decide)) (HW.out.2.2.2.2.1.apart HSZ.out.2 (by decide))).trans HS.out.2.2.1
   have HF := Lib.hid (And.intro y1 (And.intro y2 (And.intro h4 (HS.out.2.2.2.1.trans hb5))))
   clear y1 y2 hbel hoth hb5 h4 c0 c1 c2
   go_wp2_with fail
   have h1 := HS.out.2.2.2.2
   refine ⟨⟨j + 1, by omega, congrArg (Value.int .i64) (by unfold wrap64; omega), _, _, HS.out.2.1, HF.out.1, HF.out.2.1, HF.out.2.2.1, HF.out.2.2.2⟩, ?_⟩
   have e1 : wrap64 ((i : Int) - 1) = (i : Int) - 1 := by unfold wrap64; omega
   rw [e1]
   simp [intOf]
   try omega
  ·
   obtain rfl : j = n := by omega
   rw [H.out.2.2.2.1] at hlay
   cases hlay
   rw [show (j : Int) - 1 - (j : Int) = -1 by omega]
   have c0 := z4.cell 0 (v := .slice a j nc) rfl
   have c1 := z4.cell 1 (v := .slice (some ⟨gE, 0, none⟩) j j) rfl
   have c2 := z4.cell 2 (v := .slice (some ⟨gD, 0, none⟩) j j) rfl
   have ce := z1.cell 0 (iv_get j E 0 H.out.2.2.1)
   rw [H.out.2.2.2.2] at ce
   have p0 : ((j : Int) == 0) = false := by rw [beq_eq_false_iff_ne]; have := H.out.2.2.1; omega
   have p1 : (0 : Int) < (j : Int) := by have := H.out.2.2.1; omega
   have p2 : ((j : Int) != (j : Int)) = false := by simp
   have p3 : ¬ j = 0 := by omega
   have hr := H0.out.2.1.below hbr H0.out.2.1.lt
   have HX := Lib.hid (And.intro z1 (And.intro z2 (And.intro hr hbr)))
   clear z1 z2 z4 hr hbr hj hlt
   go_wp2_with (refine wpList_store_row rfl 279 _ _ rfl (w.heap.size + 1) (layV a j nc gE gD) rfl rfl 279 #[.slice none 0 0, .slice none 0 0, .slice none 0 0] HX.out.2.2.1 info59 rfl (by simp [layV, Value.oneCell']) ?_)
   refine bodyPost_ret (v := .agg (layV a j nc gE gD)) (results_cell_row (p := 2) (ty := 279) (by kernel_rfl) _ _ (w.heap.size + 1) 279 (layV a j nc gE gD) (0, 0) _ rfl (HX.out.2.2.1.setRow _) Tryz.underlying279 rfl info59) rfl ⟨gE, gD, rfl, Nat.le_trans H0.out.2.2.size HW.out.1, Nat.le_trans H0.out.2.2.size HW.out.2.1, HX.out.1.setRowOther _ _ ?_, HX.out.2.1.setRowOther _ _ ?_, below_setRow (H0.out.2.2.trans (HX.out.2.2.2.mono H0.out.2.2.size)) _ _ (by omega)⟩
   ·
    exact HX.out.1.apart HX.out.2.2.1 (by decide)
   ·
    exact HX.out.2.1.apart HX.out.2.2.1 (by decide)
set_option maxRecDepth 100000 in
theorem laid_bad (a : Option Addr) (n nc : Nat) (ks : Nat → Int) (w : World) (hn : n ≤ 1000000) (hk : KsAt w a n ks) (hl : layN ks n n = none ∨ ∃ E D, layN ks n n = some (E, D) ∧ (n = 0 ∨ E 0 ≠ n)) :
  Calls Tryz.prog 243 #[.agg #[.slice a n nc]] w fun e w' => ThrownT e ∧ Below w.heap.size w w' := by
 have H := Lib.hid (And.intro hn (And.intro hk hl))
 have n1 : (n : Int) ≤ 1000000 := by omega
 have n0 : (0 : Int) ≤ (n : Int) := by omega
 clear hn hk hl
 go_enter Tryz.func243, Tryz.ntmps243
 go_upto_region 1 with fail
 have hA : Lies ((w.alloc (.cells #[.slice a n nc] 24)).alloc (.cells #[.slice none 0 0, .slice none 0 0, .slice none 0 0] 279)) w.heap.size #[.slice a n nc] 24 := (Lies.new _ _ _).alloc _
 have hB : Lies ((w.alloc (.cells #[.slice a n nc] 24)).alloc (.cells #[.slice none 0 0, .slice none 0 0, .slice none 0 0] 279)) (w.heap.size + 1) #[.slice none 0 0, .slice none 0 0, .slice none 0 0] 279 := by
  have := Lies.new (w.alloc (.cells #[.slice a n nc] 24)) #[.slice none 0 0, .slice none 0 0, .slice none 0 0] 279
  simpa using this
 have hb0 : Below w.heap.size w ((w.alloc (.cells #[.slice a n nc] 24)).alloc (.cells #[.slice none 0 0, .slice none 0 0, .slice none 0 0] 279)) := ((Below.refl _ _).alloc (Nat.le_refl _) _).alloc (by simp) _
 have c0 := hA.cell 0 (v := .slice a n nc) rfl
 have H0 := Lib.hid (And.intro hA (And.intro hB hb0))
 clear hA hB hb0
 generalize (w.alloc (.cells #[.slice a n nc] 24)).alloc (.cells #[.slice none 0 0, .slice none 0 0, .slice none 0 0] 279) = W0 at H0 c0 ⊢
 go_upto_region 2 with fail
 clear c0
 refine wp_region_held (S := Below W0.heap.size W0) (by kernel_rfl) ?_
 change wpAnyH _ _ _ _ _ 9 _ _ (World.drew W0)
 have hcur : Below W0.heap.size W0 W0.drew := (Below.refl _ _).drew
 refine held_take (i := 0) (v := .pointer (some ⟨w.heap.size, 0, none⟩)) rfl 9 rfl (by kernel_rfl) (by kernel_rfl) (by kernel_rfl) (fun _ _ _ h => h) (by rfl) (by intro w' hS'; unfold execOp; simp [go_sem]) hcur _ rfl ?_
 simp only [Act.put, List.setIfInBounds_toArray, List.set_cons_zero, List.set_cons_succ]
 refine held_take (i := 1) (v := .slice a n nc) rfl 10 rfl (by kernel_rfl) (by kernel_rfl) (by kernel_rfl) (fun _ _ _ h => h) (by rfl) (by intro w' hS'; have h1 := (H0.out.1.below hS' H0.out.1.lt).cell 0 (v := .slice a n nc) rfl; unfold execOp; simp [go_sem, h1]) hcur _ rfl ?_
 simp only [Act.put, List.setIfInBounds_toArray, List.set_cons_zero, List.set_cons_succ]
 refine held_take (i := 2) (v := .int .i64 n) rfl 11 rfl (by kernel_rfl) (by kernel_rfl) (by kernel_rfl) (fun _ _ _ h => h) (by rfl) (by intro w' hS'; unfold execOp; simp [go_sem]) hcur _ rfl ?_
 simp only [Act.put, List.setIfInBounds_toArray, List.set_cons_zero, List.set_cons_succ]
 refine held_take (i := 4) (v := .int .i64 n) rfl 13 rfl (by kernel_rfl) (by kernel_rfl) (by kernel_rfl) (fun _ _ _ h => h) (by rfl) (by intro w' hS'; unfold execOp; simp [go_sem]) hcur _ rfl ?_
 simp only [Act.put, List.setIfInBounds_toArray, List.set_cons_zero, List.set_cons_succ]
 have hmk := fun V => mk_ints n H.out.1 V
 refine mk_any W0 n nc a H.out.1 _ (by show (12 : Nat) < 37; decide) (by show (14 : Nat) < 37; decide) (by show (15 : Nat) < 37; decide) (by show (4 : Nat) < 37; decide) _ _ _ _ _
  rfl rfl rfl (fun _ _ _ _ V => by unfold execOp; simp [put4, Act.put, Act.eval, go_sem, hmk]) rfl rfl rfl (fun _ _ _ _ V => by unfold execOp; simp [put4, Act.put, Act.eval, go_sem, hmk]) rfl rfl rfl (fun _ _ _ _ V => by kernel_rfl) rfl rfl rfl rfl rfl rfl rfl rfl (by kernel_rfl) ?hQ _ hcur
 intro v1 v2 v3 gE gD g4 W2 b1 b2 b4 hne y1 y2 y4 hb2
 simp only [put4, Act.put, List.setIfInBounds_toArray, List.set_cons_zero, List.set_cons_succ]
 go_wp2_with fail
 have HW := Lib.hid (And.intro b1 (And.intro b2 (And.intro b4 (And.intro hne (And.intro y4 hb2)))))
 have hkw : ∀ V, Below W0.heap.size W0 V → KsAt V a n ks := fun V hV => (H.out.2.1.below H0.out.2.2 (Nat.le_refl _)).below hV (Nat.le_refl _)
 have HK := Lib.hid hkw
 have HY := Lib.hid (And.intro y1 y2)
 have HSZ := Lib.hid (And.intro y1 y2)
 clear b1 b2 b4 hne y1 y2 y4 hb2 hcur hmk hkw
 rcases H.out.2.2 with hnone | ⟨E, D, hall, hbadE⟩
 ·
  obtain ⟨r, Er, Dr, hr, hr1, hr2⟩ := layN_none n hnone
  have HR := Lib.hid (And.intro hr (And.intro hr1 hr2))
  clear hnone hr hr1 hr2
  go_loopw [5] (fun i W => ∃ j : Nat, j ≤ r ∧ i = .int .i64 ((n : Int) - 1 - j) ∧ ∃ E1 D1, layN ks n j = some (E1, D1) ∧ Lies W gE (iv n E1) 3 ∧ Lies W gD (iv n D1) 3 ∧ Lies W g4 (layV a n nc gE gD) 279 ∧ Below W0.heap.size W0 W) (fun i _ => (intOf i + 1).toNat)
  case atStart => exact ⟨0, by omega, by simp, _, _, rfl, HY.out.1, HY.out.2, HW.out.2.2.2.2.1, HW.out.2.2.2.2.2⟩
  case round =>
   clear HY
   obtain ⟨j, hj, rfl, E1, D1, hlay, z1, z2, z4, hbr⟩ := hrel
   have hjn : j < n := by have := HR.out.1; omega
   by_cases hlt : j < r
   ·
    obtain ⟨i, hi⟩ : ∃ i, i = n - 1 - j := ⟨_, rfl⟩
    have ei : (n : Int) - 1 - (j : Int) = (i : Int) := by omega
    rw [ei]
    obtain ⟨E2, D2, hl2⟩ := layN_prev r (j + 1) _ HR.out.2.1 (by omega)
    obtain ⟨hk0, at', m', hwk, rfl, rfl⟩ := layN_succ hlay hl2
    rw [← hi] at hk0 hwk hl2
    obtain ⟨g, off, rfl, hg, hc, hk63⟩ := HK.out _ hbr i (by omega)
    have hinv := layN_inv ks n j E1 D1 (by omega) hlay
    have hset := set_ok n g off nc gE n gD n i at' m' (ks i) E1 D1 wr (by omega) hc hg z1 z2 HW.out.2.2.2.1 H.out.1 hinv.1 hinv.2.1 hk0 hk63 hwk
    have c0 := z4.cell 0 (v := .slice (some ⟨g, off, none⟩) n nc) rfl
    have c1 := z4.cell 1 (v := .slice (some ⟨gE, 0, none⟩) n n) rfl
    have c2 := z4.cell 2 (v := .slice (some ⟨gD, 0, none⟩) n n) rfl
    have HS := Lib.hid (And.intro hset (And.intro hl2 (And.intro z4 (And.intro hbr (And.intro hi (And.intro hlt (And.intro hj hjn)))))))
    have i0 : (0 : Int) ≤ (i : Int) := by omega
    clear hset hl2 z1 z2 z4 hbr hi hlt hj hjn hk0 hwk hg hc hk63 hinv hlay ei
    go_wp2_with fail
    refine HS.out.1.mono ?_
    rintro e w5 ⟨rfl, y1, y2, hbel, hoth⟩
    have hb5 := hbel W0.heap.size HW.out.1 HW.out.2.1
    have h4 : Lies w5 g4 (layV (some ⟨g, off, none⟩) n nc gE gD) 279 := (hoth g4 HS.out.2.2.1.lt (HW.out.2.2.2.2.1.apart HSZ.out.1 (by decide)) (HW.out.2.2.2.2.1.apart HSZ.out.2 (by decide))).trans HS.out.2.2.1
    have HF := Lib.hid (And.intro y1 (And.intro y2 (And.intro h4 (HS.out.2.2.2.1.trans hb5))))
    clear y1 y2 hbel hoth hb5 h4 c0 c1 c2
    go_wp2_with fail
    have h1 := HS.out.2.2.2.2
    refine ⟨⟨j + 1, by omega, congrArg (Value.int .i64) (by unfold wrap64; omega), _, _, HS.out.2.1, HF.out.1, HF.out.2.1, HF.out.2.2.1, HF.out.2.2.2⟩, ?_⟩
    have e1 : wrap64 ((i : Int) - 1) = (i : Int) - 1 := by unfold wrap64; omega
    rw [e1]
    simp [intOf]
    try omega
   ·
    obtain rfl : j = r := by omega
    obtain ⟨i, hi⟩ : ∃ i, i = n - 1 - j := ⟨_, rfl⟩
    have ei : (n : Int) - 1 - (j : Int) = (i : Int) := by omega
    rw [ei]
    rw [HR.out.2.1] at hlay
    cases hlay
    have hstop := layN_stop HR.out.2.1 HR.out.2.2
    rw [← hi] at hstop
    obtain ⟨g, off, rfl, hg, hc, hk63⟩ := HK.out _ hbr i (by omega)
    have hinv := layN_inv ks n j _ _ (by omega) HR.out.2.1
    have hset := set_bad n g off nc gE n gD n i (ks i) _ _ wr (by omega) hc hg z1 z2 HW.out.2.2.2.1 H.out.1 hinv.1 hinv.2.1 hk63 hstop
    have c0 := z4.cell 0 (v := .slice (some ⟨g, off, none⟩) n nc) rfl
    have c1 := z4.cell 1 (v := .slice (some ⟨gE, 0, none⟩) n n) rfl
    have c2 := z4.cell 2 (v := .slice (some ⟨gD, 0, none⟩) n n) rfl
    have HS := Lib.hid (And.intro hset hbr)
    have i0 : (0 : Int) ≤ (i : Int) := by omega
    clear hset z1 z2 z4 hbr hi hlt hj hjn hstop hg hc hk63 hinv ei
    go_wp2_with fail
    refine HS.out.1.mono ?_
    rintro e w5 ⟨⟨v, rfl⟩, hb5⟩
    have hfin := H0.out.2.2.trans ((HS.out.2.trans (hb5.mono HS.out.2.size)).mono H0.out.2.2.size)
    clear hb5 c0 c1 c2
    go_wp2_with fail
    exact ⟨rfl, ⟨_, rfl⟩, hfin⟩
 ·
  have HA := Lib.hid (And.intro hall hbadE)
  clear hall hbadE
  go_loopw [5] (fun i W => ∃ j : Nat, j ≤ n ∧ i = .int .i64 ((n : Int) - 1 - j) ∧ ∃ E1 D1, layN ks n j = some (E1, D1) ∧ Lies W gE (iv n E1) 3 ∧ Lies W gD (iv n D1) 3 ∧ Lies W g4 (layV a n nc gE gD) 279 ∧ Below W0.heap.size W0 W) (fun i _ => (intOf i + 1).toNat)
  case atStart => exact ⟨0, by omega, by simp, _, _, rfl, HY.out.1, HY.out.2, HW.out.2.2.2.2.1, HW.out.2.2.2.2.2⟩
  case round =>
   clear HY
   obtain ⟨j, hj, rfl, E1, D1, hlay, z1, z2, z4, hbr⟩ := hrel
   by_cases hlt : j < n
   ·
    obtain ⟨i, hi⟩ : ∃ i, i = n - 1 - j := ⟨_, rfl⟩
    have ei : (n : Int) - 1 - (j : Int) = (i : Int) := by omega
    rw [ei]
    obtain ⟨E2, D2, hl2⟩ := layN_prev n (j + 1) _ HA.out.1 (by omega)
    obtain ⟨hk0, at', m', hwk, rfl, rfl⟩ := layN_succ hlay hl2
    rw [← hi] at hk0 hwk hl2
    obtain ⟨g, off, rfl, hg, hc, hk63⟩ := HK.out _ hbr i (by omega)
    have hinv := layN_inv ks n j E1 D1 hj hlay
    have hset := set_ok n g off nc gE n gD n i at' m' (ks i) E1 D1 wr (by omega) hc hg z1 z2 HW.out.2.2.2.1 H.out.1 hinv.1 hinv.2.1 hk0 hk63 hwk
    have c0 := z4.cell 0 (v := .slice (some ⟨g, off, none⟩) n nc) rfl
    have c1 := z4.cell 1 (v := .slice (some ⟨gE, 0, none⟩) n n) rfl
    have c2 := z4.cell 2 (v := .slice (some ⟨gD, 0, none⟩) n n) rfl
    have HS := Lib.hid (And.intro hset (And.intro hl2 (And.intro z4 (And.intro hbr (And.intro hi (And.intro hlt hj))))))
    have i0 : (0 : Int) ≤ (i : Int) := by omega
    clear hset hl2 z1 z2 z4 hbr hi hlt hj hk0 hwk hg hc hk63 hinv hlay ei
    go_wp2_with fail
    refine HS.out.1.mono ?_
    rintro e w5 ⟨rfl, y1, y2, hbel, hoth⟩
    have hb5 := hbel W0.heap.size HW.out.1 HW.out.2.1
    have h4 : Lies w5 g4 (layV (some ⟨g, off, none⟩) n nc gE gD) 279 := (hoth g4 HS.out.2.2.1.lt (HW.out.2.2.2.2.1.apart HSZ.out.1 (by decide)) (HW.out.2.2.2.2.1.apart HSZ.out.2 (by decide))).trans HS.out.2.2.1
    have HF := Lib.hid (And.intro y1 (And.intro y2 (And.intro h4 (HS.out.2.2.2.1.trans hb5))))
    clear y1 y2 hbel hoth hb5 h4 c0 c1 c2
    go_wp2_with fail
    have h1 := HS.out.2.2.2.2
    refine ⟨⟨j + 1, by omega, congrArg (Value.int .i64) (by unfold wrap64; omega), _, _, HS.out.2.1, HF.out.1, HF.out.2.1, HF.out.2.2.1, HF.out.2.2.2⟩, ?_⟩
    have e1 : wrap64 ((i : Int) - 1) = (i : Int) - 1 := by unfold wrap64; omega
    rw [e1]
    simp [intOf]
    try omega
   ·
    obtain rfl : j = n := by omega
    rw [HA.out.1] at hlay
    cases hlay
    rw [show (j : Int) - 1 - (j : Int) = -1 by omega]
    have c0 := z4.cell 0 (v := .slice a j nc) rfl
    have c1 := z4.cell 1 (v := .slice (some ⟨gE, 0, none⟩) j j) rfl
    have c2 := z4.cell 2 (v := .slice (some ⟨gD, 0, none⟩) j j) rfl
    have hfin := H0.out.2.2.trans (hbr.mono H0.out.2.2.size)
    by_cases h0 : j = 0
    ·
     have p0 : ((j : Int) == 0) = true := by rw [beq_iff_eq]; omega
     clear z1 z2 z4 hbr hj hlt
     go_wp2_with fail
     exact ⟨rfl, ⟨_, rfl⟩, hfin⟩
    ·
     have ce := z1.cell 0 (iv_get j E 0 (by omega))
     have hE0 : E 0 ≠ j := by
      rcases HA.out.2 with h | h
      ·
       exact absurd h h0
      ·
       exact h
     have p0 : ((j : Int) == 0) = false := by rw [beq_eq_false_iff_ne]; omega
     have p1 : (0 : Int) < (j : Int) := by omega
     obtain ⟨e0, he0⟩ : ∃ e0, e0 = E 0 := ⟨_, rfl⟩
     rw [← he0] at ce hE0
     have p2 : ((e0 : Int) != (j : Int)) = true := by rw [bne_iff_ne]; omega
     have p4 : (e0 != j) = true := by rw [bne_iff_ne]; exact hE0
     clear z1 z2 z4 hbr hj hlt he0
     go_wp2_with fail
     exact ⟨rfl, ⟨_, rfl⟩, hfin⟩
end Go.Proofs.YtilbbemdinpjcaaGreat.T
namespace Go.Proofs.YtilbbemdinpjcaaGreat.T
open Go.RowKit
theorem catchB_panicking (p q : Addr) (x : Bool) (y : Value) (u : TypeId) (pv : Value) (older : List PanicEntry) (w : World) (hp : w.cell? p = some (Value.bool x)) (hc : w.cell? q = some y) (hz : w.frozen? q = false) :
  CallsD Tryz.prog 277 #[.pointer (some p), .pointer (some q)] (.panicking ({ v := .iface u pv, recovered := false } :: older)) w fun e u' w' =>
   e = .returned (.tuple #[]) ∧ u' = .panicking ({ v := .iface u pv, recovered := true } :: older) ∧ w' = w.setCell q (Value.bool x) := by
 refine callsD_of_wpS Tryz.func277 rfl fun c₀ cs hu => ?_
 apply wpS_seq
 apply wpS_region
 simp [wpOpsS, go_sem, recoverD, hu, Tryz.ntmps277, Exit.thenS]
 refine wpS_cond (t := true) (by simp [Act.eval, Array.replicate]) ?_
 simp only [if_true]
 apply wpS_region
 simp [wpOpsS, go_sem, hp, hc, hz, bodyPostS, results, Tryz.results277]
theorem catchB_idle (p q : Addr) (w : World) :
  CallsD Tryz.prog 277 #[.pointer (some p), .pointer (some q)] .returning w fun e u' w' => e = .returned (.tuple #[]) ∧ u' = .returning ∧ w' = w := by
 refine callsD_of_wpS Tryz.func277 rfl fun c₀ cs hu => ?_
 apply wpS_seq
 apply wpS_region
 simp [wpOpsS, go_sem, recoverD, hu, Tryz.ntmps277, Exit.thenS]
 refine wpS_cond (t := false) (by simp [Act.eval, Array.replicate]) ?_
 simp only [Bool.false_eq_true, if_false]
 refine wpS_of_wp (wp_skip ?_)
 cases c₀
 simp_all [bodyPostS, results, Tryz.results277]
set_option maxRecDepth 100000 in
theorem askB_ok (w : World) (x r : Bool) (K : Nat) (cap : Array Value)
  (hK : ∀ w : World, (callFunc K cap).run Tryz.prog w = .ok (.enter K cap) w) (hbe : ∀ w1, Below w.heap.size w w1 → Calls Tryz.prog K cap w1 fun e w2 => e = .returned (Value.bool r) ∧ Below w1.heap.size w1 w2) :
  Calls Tryz.prog 241 #[Value.bool x, .func (Fn.func K) #[] cap] w fun e w' => e = .returned (Value.bool r) ∧ Below w.heap.size w w' := by
 have hmf : ∀ (fn : Fn) (first cap : Array Value) (w : World), (Instr.makeFunc fn first cap).run Tryz.prog w = .ok (.func fn first cap) w := fun _ _ _ _ => rfl
 have hb : Below w.heap.size w ((w.alloc (.cells #[Value.bool x] 4)).alloc (.cells #[Value.bool false] 4)) := ((Below.refl _ _).alloc (Nat.le_refl _) _).alloc (by simp) _
 have hc2 := hbe _ hb
 have HC := Lib.hid hc2
 have HB := Lib.hid hb
 clear hb hc2 hbe
 go_enter_defers Tryz.func241, Tryz.ntmps241
 go_wp2_with fail
 refine HC.out.mono ?_
 rintro e w2 ⟨rfl, hb2⟩
 have hz2 : w.heap.size + 1 < w2.heap.size := by have := hb2.size; simp at this; omega
 obtain ⟨hcc, hff⟩ := bcell hb2
 have k1 : w2.cell? ⟨w.heap.size + 1, 0, none⟩ = some (Value.bool false) := by rw [hcc _ _ (by simp)]; simp [go_sem]
 have k2 : w2.frozen? ⟨w.heap.size + 1, 0, none⟩ = false := by rw [hff _ _ (by simp)]; simp [go_sem]
 have HB2 := Lib.hid hb2
 clear hcc hff hb2
 go_wp2_with fail
 refine leaves_cons (f := 277) (args := #[.pointer (some ⟨w.heap.size, 0, none⟩), .pointer (some ⟨w.heap.size + 1, 0, none⟩)]) (by simp) (by simp [go_sem]) ?_
 refine (catchB_idle ⟨w.heap.size, 0, none⟩ ⟨w.heap.size + 1, 0, none⟩ _).mono ?_
 rintro e u' w'' ⟨rfl, rfl, hw⟩
 subst hw
 simp [Leaves, settle, results, Tryz.results241, go_sem, k1]
 exact ((HB.out.trans (HB2.out.mono (by simp; omega))).setCell (by simp) _)
set_option maxRecDepth 100000 in
theorem askB_thrown (w : World) (x : Bool) (K : Nat) (cap : Array Value)
  (hK : ∀ w : World, (callFunc K cap).run Tryz.prog w = .ok (.enter K cap) w) (hbe : ∀ w1, Below w.heap.size w w1 → Calls Tryz.prog K cap w1 fun e w2 => ThrownT e ∧ Below w1.heap.size w1 w2) :
  Calls Tryz.prog 241 #[Value.bool x, .func (Fn.func K) #[] cap] w fun e w' => e = .returned (Value.bool x) ∧ Below w.heap.size w w' := by
 have hmf : ∀ (fn : Fn) (first cap : Array Value) (w : World), (Instr.makeFunc fn first cap).run Tryz.prog w = .ok (.func fn first cap) w := fun _ _ _ _ => rfl
 have hb : Below w.heap.size w ((w.alloc (.cells #[Value.bool x] 4)).alloc (.cells #[Value.bool false] 4)) := ((Below.refl _ _).alloc (Nat.le_refl _) _).alloc (by simp) _
 have hc2 := hbe _ hb
 have HC := Lib.hid hc2
 have HB := Lib.hid hb
 clear hb hc2 hbe
 go_enter_defers Tryz.func241, Tryz.ntmps241
 go_wp2_with fail
 refine HC.out.mono ?_
 rintro e w2 ⟨⟨v, rfl⟩, hb2⟩
 have hz2 : w.heap.size + 1 < w2.heap.size := by have := hb2.size; simp at this; omega
 obtain ⟨hcc, hff⟩ := bcell hb2
 have k0 : w2.cell? ⟨w.heap.size, 0, none⟩ = some (Value.bool x) := by rw [hcc _ _ (by simp; omega)]; simp [go_sem]
 have k1 : w2.cell? ⟨w.heap.size + 1, 0, none⟩ = some (Value.bool false) := by rw [hcc _ _ (by simp)]; simp [go_sem]
 have k2 : w2.frozen? ⟨w.heap.size + 1, 0, none⟩ = false := by rw [hff _ _ (by simp)]; simp [go_sem]
 have HB2 := Lib.hid hb2
 clear hcc hff hb2
 go_wp2_with fail
 refine leaves_cons (f := 277) (args := #[.pointer (some ⟨w.heap.size, 0, none⟩), .pointer (some ⟨w.heap.size + 1, 0, none⟩)]) (by simp) (by simp [go_sem]) ?_
 refine (catchB_panicking ⟨w.heap.size, 0, none⟩ ⟨w.heap.size + 1, 0, none⟩ x (Value.bool false) 64 _ [] _ k0 k1 k2).mono ?_
 rintro e u' w'' ⟨rfl, rfl, hw⟩
 subst hw
 simp [Leaves, settle, results, Tryz.results241, go_sem, k1]
 exact ((HB.out.trans (HB2.out.mono (by simp; omega))).setCell (by simp) _)
end Go.Proofs.YtilbbemdinpjcaaGreat.T
namespace Go.Proofs.YtilbbemdinpjcaaGreat.T
open Go.RowKit
def layOf (ks : Nat → Int) (n : Nat) : Option ((Nat → Nat) × (Nat → Nat)) := match layN ks n n with
 | none => none
 | some (E, D) => if 0 < n ∧ E 0 = n then some (E, D) else none
def inOrd (ks : Nat → Int) (n : Nat) : Bool := (layOf ks n).isSome
def deepOf (ks : Nat → Int) (n : Nat) : Nat := match layOf ks n with
 | none => 0
 | some (_, D) => D 0
theorem layOf_some {ks : Nat → Int} {n : Nat} {E D : Nat → Nat} (h : layOf ks n = some (E, D)) : Laid ks n E D := by
  unfold layOf at h
  cases hl : layN ks n n with
  | none => rw [hl] at h; cases h
  | some x =>
    obtain ⟨E0, D0⟩ := x
    rw [hl] at h
    simp only at h
    split at h
    · rename_i hc
      cases h
      exact ⟨hc.1, hl, hc.2⟩
    · cases h
theorem layOf_none {ks : Nat → Int} {n : Nat} (h : layOf ks n = none) : layN ks n n = none ∨ ∃ E D, layN ks n n = some (E, D) ∧ (n = 0 ∨ E 0 ≠ n) := by
  unfold layOf at h
  cases hl : layN ks n n with
  | none => exact .inl rfl
  | some x =>
    obtain ⟨E0, D0⟩ := x
    rw [hl] at h
    simp only at h
    split at h
    · cases h
    · rename_i hc
      refine .inr ⟨E0, D0, rfl, ?_⟩
      by_cases h0 : n = 0
      · exact .inl h0
      · exact .inr fun e => hc ⟨by omega, e⟩
end Go.Proofs.YtilbbemdinpjcaaGreat.T
