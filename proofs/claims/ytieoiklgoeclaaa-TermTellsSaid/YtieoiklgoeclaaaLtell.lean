/-
  TermTells' walk (3).
-/
import Derived.Test.YtieoiklgoeclaaaRj
namespace Go.Proofs.Ytieoiklgoeclaaa
open Go.RowKit

theorem wrap_costs (r s : Fin 1000000000000001) : IntKind.i64.wrap (((r.val : Nat) : Int) + ((s.val : Nat) : Int)) = ((r.val : Nat) : Int) + ((s.val : Nat) : Int) := by
  have h1 := r.isLt
  have h2 := s.isLt
  rw [IntKind.wrap_i64]
  omega
theorem TIn.tw {w : World} {t : TK} (h : TIn w t) (hc : cost t.xs ≤ 300) : TW w t.a t.xs := ⟨h.tat hc, h.words, fun x hx => Nat.le_trans (h.txt x hx) (by omega)⟩
set_option maxRecDepth 100000 in
set_option maxHeartbeats 4000000 in
theorem tellsL_any (w : World) (t u : TK) (ht : TIn w t) (hu : TIn w u) :
    Calls Try.prog 3 #[.agg #[t.v], .agg #[u.v]] w fun e w' => e = .returned (.bool true) ∧ Below w.heap.size w w' := by
  have hA : Lies ((w.alloc (.cells #[t.v] 24)).alloc (.cells #[u.v] 24)) w.heap.size #[t.v] 24 := (Lies.new _ _ _).alloc _
  have hB : Lies ((w.alloc (.cells #[t.v] 24)).alloc (.cells #[u.v] 24)) (w.heap.size + 1) #[u.v] 24 := by
    have := Lies.new (w.alloc (.cells #[t.v] 24)) #[u.v] 24
    simpa using this
  have hb0 : Below w.heap.size w ((w.alloc (.cells #[t.v] 24)).alloc (.cells #[u.v] 24)) := ((Below.refl _ _).alloc (Nat.le_refl _) _).alloc (by simp) _
  have haw : ∀ V, Calls Try.prog 8 #[] V fun e w' => e = .returned (.bool true) ∧ Below V.heap.size V w' := awakeT_any
  have k7t : ∀ V, Below w.heap.size w V → Calls Try.prog 7 #[.agg #[t.v], .int .i64 300] V fun e w' => ∃ r : Fin 1000000000000001, e = .returned (.int .i64 ((r.val : Nat) : Int)) ∧ (r.val ≤ 300 → cost t.xs ≤ 300) ∧ Below V.heap.size V w' := fun V hV =>
    (termOf_any V t.a t.c t.xs (ht.below hV).raw ht.txt ht.len).mono fun e w' ⟨r, h1, h2, h3, h4⟩ => ⟨⟨r, by omega⟩, h1, fun h => by have := h2 h; simp only at h; omega, h4⟩
  have k7u : ∀ V, Below w.heap.size w V → Calls Try.prog 7 #[.agg #[u.v], .int .i64 300] V fun e w' => ∃ r : Fin 1000000000000001, e = .returned (.int .i64 ((r.val : Nat) : Int)) ∧ (r.val ≤ 300 → cost u.xs ≤ 300) ∧ Below V.heap.size V w' := fun V hV =>
    (termOf_any V u.a u.c u.xs (hu.below hV).raw hu.txt hu.len).mono fun e w' ⟨r, h1, h2, h3, h4⟩ => ⟨⟨r, by omega⟩, h1, fun h => by have := h2 h; simp only at h; omega, h4⟩
  have H := Lib.hid (And.intro ht hu)
  clear ht hu
  obtain ⟨ta, tc, xs⟩ := t
  obtain ⟨ua, uc, ys⟩ := u
  unfold TK.v at *
  simp only at *
  obtain ⟨n, hn⟩ : ∃ n, n = xs.length := ⟨_, rfl⟩
  obtain ⟨m, hm⟩ : ∃ n, n = ys.length := ⟨_, rfl⟩
  simp only [← hn, ← hm] at hA hB hb0 k7t k7u ⊢
  have HN := Lib.hid (And.intro hn hm)
  have HA := Lib.hid (And.intro hA (And.intro hB hb0))
  have HAW := Lib.hid haw
  have HK := Lib.hid (And.intro k7t k7u)
  have HW := Lib.hid wrap_costs
  clear hA hB hb0 haw k7t k7u hn hm
  go_enter Try.func3, Try.ntmps3
  go_upto_region 1 with fail
  generalize (w.alloc (.cells #[.slice ta n tc] 24)).alloc (.cells #[.slice ua m uc] 24) = W0 at HA ⊢
  have hcell : ∀ V, Below W0.heap.size W0 V → V.cell? ⟨w.heap.size, 0, none⟩ = some (.slice ta n tc) ∧ V.cell? ⟨w.heap.size + 1, 0, none⟩ = some (.slice ua m uc) := fun V hV =>
    ⟨(HA.out.1.below hV HA.out.1.lt).cell 0 rfl, (HA.out.2.1.below hV HA.out.2.1.lt).cell 0 rfl⟩
  have hbw : ∀ V, Below W0.heap.size W0 V → Below w.heap.size w V := fun V hV => HA.out.2.2.trans (hV.mono HA.out.2.2.size)
  have k1 : ∀ V, Below W0.heap.size W0 V → Calls Try.prog 7 #[.agg #[.slice ta n tc], .int .i64 300] V fun e w' => ∃ r : Fin 1000000000000001, e = .returned (.int .i64 ((r.val : Nat) : Int)) ∧ (r.val ≤ 300 → cost xs ≤ 300) ∧ Below W0.heap.size W0 w' := fun V hV => (HK.out.1 V (hbw V hV)).mono fun e w' ⟨r, h1, h2, h3⟩ => ⟨r, h1, h2, hV.trans (h3.mono hV.size)⟩
  have k2 : ∀ V, Below W0.heap.size W0 V → Calls Try.prog 7 #[.agg #[.slice ua m uc], .int .i64 300] V fun e w' => ∃ r : Fin 1000000000000001, e = .returned (.int .i64 ((r.val : Nat) : Int)) ∧ (r.val ≤ 300 → cost ys ≤ 300) ∧ Below W0.heap.size W0 w' := fun V hV => (HK.out.2 V (hbw V hV)).mono fun e w' ⟨r, h1, h2, h3⟩ => ⟨r, h1, h2, hV.trans (h3.mono hV.size)⟩
  have HS := Lib.hid hcell
  have HB := Lib.hid hbw
  have HC := Lib.hid (And.intro k1 k2)
  obtain ⟨s0, s1⟩ := hcell W0 (Below.refl _ _)
  have hB0 : Below W0.heap.size W0 W0 := Below.refl _ _
  have d0 : Below W0.heap.size W0 W0.drew := hB0.drew
  clear hcell hbw k1 k2
  go_cut [12] from 39 (fun v W => ∃ z : Bool, v = .bool z ∧ (z = false → cost xs ≤ 300 ∧ cost ys ≤ 300) ∧ Below W0.heap.size W0 W)
  case first =>
    have hwr := HW.out
    go_region_held3 (fun V => V.cell? ⟨w.heap.size, 0, none⟩ = some (.slice ta n tc) ∧ V.cell? ⟨w.heap.size + 1, 0, none⟩ = some (.slice ua m uc)) (first | go_keep | exact HS.out _ (by assumption))
      (first | (with_reducible refine (HC.out.1 _ (by assumption)).mono ?_; rintro e u1 ⟨r1, rfl, hr1, hu1⟩) | (with_reducible refine (HC.out.2 _ (by assumption)).mono ?_; rintro e u2 ⟨r2, rfl, hr2, hu2⟩))
    have HX := Lib.hid (And.intro hr1 (And.intro hr2 hu2))
    clear hr1 hr2 hu1 hu2 hwr
    obtain ⟨z, hz⟩ : ∃ z, z = decide ((300 : Int) < ((r1.val : Nat) : Int) + ((r2.val : Nat) : Int)) := ⟨_, rfl⟩
    go_wp2_with fail
    go_meet
    case rel => exact ⟨_, rfl, fun h => by have := of_decide_eq_false h; exact ⟨HX.out.1 (by omega), HX.out.2.1 (by omega)⟩, HX.out.2.2⟩
  case rest =>
    obtain ⟨z, rfl, hz, hb1⟩ := hcut
    rename World => W1
    clear s0 s1 hB0 d0
    have HZ := Lib.hid (And.intro hz hb1)
    clear hz hb1
    cases z with
    | true =>
      go_wp2_with fail
      refine (HAW.out _).mono ?_
      rintro e w2 ⟨rfl, hb2⟩
      have HF := Lib.hid ((HB.out _ HZ.out.2).trans (hb2.mono (HB.out _ HZ.out.2).size))
      clear hb2
      go_wp2_with fail
      go_ret
      exact ⟨rfl, HF.out⟩
    | false =>
      obtain ⟨hcx, hcy⟩ := HZ.out.1 rfl
      have HT : ∀ V, Below W0.heap.size W0 V → TW V ta xs ∧ TW V ua ys := fun V hV => ⟨(H.out.1.below (HB.out V hV)).tw hcx, (H.out.2.below (HB.out V hV)).tw hcy⟩
      have hlx : xs.length ≤ 300 := by have := cost_len xs; omega
      have hly : ys.length ≤ 300 := by have := cost_len ys; omega
      have kl1 : ∀ V, Below W1.heap.size W1 V → Calls Try.prog 9 #[.agg #[.slice ta n tc]] V fun e w' => ∃ v, e = .returned (.agg #[v]) ∧ LentV w' v xs ∧ Below V.heap.size V w' := fun V hV => by
        have hV0 := HZ.out.2.trans (hV.mono HZ.out.2.size)
        rw [HN.out.1]
        exact (lentT_any V ta tc xs (HT V hV0).1.tat H.out.1.none0 (by omega)).mono fun e w' ⟨a', c', h1, h2, h3, h4⟩ => ⟨_, h1, ⟨a', c', rfl, h2, h3.mono (Nat.zero_le _)⟩, h4⟩
      have kl2 : ∀ V, Below W1.heap.size W1 V → Calls Try.prog 9 #[.agg #[.slice ua m uc]] V fun e w' => ∃ v, e = .returned (.agg #[v]) ∧ LentV w' v ys ∧ Below V.heap.size V w' := fun V hV => by
        have hV0 := HZ.out.2.trans (hV.mono HZ.out.2.size)
        rw [HN.out.2]
        exact (lentT_any V ua uc ys (HT V hV0).2.tat H.out.2.none0 (by omega)).mono fun e w' ⟨a', c', h1, h2, h3, h4⟩ => ⟨_, h1, ⟨a', c', rfl, h2, h3.mono (Nat.zero_le _)⟩, h4⟩
      have K9 := Lib.hid (And.intro kl1 (And.intro kl2 (And.intro HT (And.intro hlx hly))))
      clear kl1 kl2 HT hlx hly hcx hcy
      have hS : ∀ V, Below W1.heap.size W1 V → V.cell? ⟨w.heap.size, 0, none⟩ = some (.slice ta n tc) ∧ V.cell? ⟨w.heap.size + 1, 0, none⟩ = some (.slice ua m uc) := fun V hV => HS.out V (HZ.out.2.trans (hV.mono HZ.out.2.size))
      have S8 := Lib.hid hS
      clear hS
      go_upto_region 3 with fail
      refine wp_region_held (S := Below W1.heap.size W1) (by kernel_rfl) ?_
      change wpAnyH _ _ _ _ _ 8 _ _ (World.drew W1)
      have hcur : Below W1.heap.size W1 W1.drew := (Below.refl _ _).drew
      refine held_take (i := 0) (v := .agg #[.slice ta n tc]) rfl 14 rfl (by kernel_rfl) (by kernel_rfl) (by kernel_rfl) (fun _ _ _ h => h) (by rfl) (by intro w' hS'; obtain ⟨x0, x1⟩ := S8.out w' hS'; unfold execOp; simp [go_sem, x0]) hcur _ rfl ?_
      simp only [Act.put, List.setIfInBounds_toArray, List.set_cons_zero, List.set_cons_succ]
      refine held_take (i := 2) (v := .agg #[.slice ua m uc]) rfl 16 rfl (by kernel_rfl) (by kernel_rfl) (by kernel_rfl) (fun _ _ _ h => h) (by rfl) (by intro w' hS'; obtain ⟨x0, x1⟩ := S8.out w' hS'; unfold execOp; simp [go_sem, x1]) hcur _ rfl ?_
      simp only [Act.put, List.setIfInBounds_toArray, List.set_cons_zero, List.set_cons_succ]
      refine lpair_any W1 xs ys ⟨1, 3, 4, 5, 6, 7⟩ (fun c1 c2 a1 a2 d1 d2 => #[true, c1, true, c2, a1, a2, d1, d2]) _ 15 17 5 6
        (by decide) (by intro s hs; show s < 39; simp only [List.mem_cons, List.not_mem_nil, or_false] at hs; rcases hs with rfl | rfl | rfl | rfl <;> decide) (.agg #[.slice ta n tc]) (.agg #[.slice ua m uc]) _ _ _ _ _ _
        rfl rfl rfl (fun f V => by kernel_rfl) rfl rfl rfl (fun f V => by kernel_rfl) rfl rfl rfl rfl rfl rfl rfl rfl rfl rfl rfl rfl rfl rfl rfl rfl
        (by kernel_rfl) (fun _ _ _ _ _ => rfl) (fun _ _ _ _ _ => rfl) (fun _ _ _ _ _ => rfl) (fun _ _ _ _ _ => rfl) (fun _ _ _ _ _ => rfl) (fun _ _ _ _ _ => rfl)
        K9.out.1 K9.out.2.1 ?hE _ hcur _ (by decide)
      intro F g1 g2 v1 v2 w9 hg1 hg2 hl1 hl2 hv1 hv2 hb9 hF1 hF2
      simp only [putF, Act.put, List.setIfInBounds_toArray, List.set_cons_zero, List.set_cons_succ, hF1, hF2]
      obtain ⟨a1, d1, rfl, hroom1, hown1⟩ := hv1
      obtain ⟨a2, d2, rfl, hroom2, hown2⟩ := hv2
      have hb09 := HZ.out.2.trans (hb9.mono HZ.out.2.size)
      have hall : ∀ V, Below w9.heap.size w9 V → Below w.heap.size w V ∧ Below W0.heap.size W0 V ∧ LentV V (.slice a1 xs.length d1) xs ∧ LentV V (.slice a2 ys.length d2) ys := fun V hV => by
        have h0 := hb09.trans (hV.mono hb09.size)
        exact ⟨HB.out V h0, h0, ⟨a1, d1, rfl, hroom1, hown1.kept hV⟩, ⟨a2, d2, rfl, hroom2, hown2.kept hV⟩⟩
      have hkx : ∀ x ∈ xs, x.kids ≤ 9223372036854775807 := H.out.1.kids
      have hky : ∀ x ∈ ys, x.kids ≤ 9223372036854775807 := H.out.2.kids
      have htw : ∀ V, Below w9.heap.size w9 V → TW V a1 xs ∧ TW V a2 ys := fun V hV => by
        obtain ⟨-, h0, h1, h2⟩ := hall V hV
        have t1 := (h1.at_ (by have := K9.out.2.2.2.1; omega) hkx).2.2.front
        have t2 := (h2.at_ (by have := K9.out.2.2.2.2; omega) hky).2.2.front
        exact ⟨⟨t1, (K9.out.2.2.1 V h0).1.words, (K9.out.2.2.1 V h0).1.txt⟩, ⟨t2, (K9.out.2.2.1 V h0).2.words, (K9.out.2.2.1 V h0).2.txt⟩⟩
      have t1 : ∀ V, Below w9.heap.size w9 V → Calls Try.prog 10 #[.agg #[.slice a1 xs.length d1], .agg #[.slice a2 ys.length d2]] V fun e w' => e = .returned (.bool true) ∧ Below V.heap.size V w' := fun V hV => tells_any V a1 a2 d1 d2 xs ys (htw V hV).1 (htw V hV).2 (by omega)
      have t2 : ∀ V, Below w9.heap.size w9 V → Calls Try.prog 10 #[.agg #[.slice a2 ys.length d2], .agg #[.slice a1 xs.length d1]] V fun e w' => e = .returned (.bool true) ∧ Below V.heap.size V w' := fun V hV => tells_any V a2 a1 d2 d1 ys xs (htw V hV).2 (htw V hV).1 (by omega)
      have t3 : ∀ V, Below w9.heap.size w9 V → Calls Try.prog 11 #[.agg #[.slice a1 xs.length d1], .agg #[.slice ta xs.length tc]] V fun e w' => e = .returned (.bool true) ∧ Below V.heap.size V w' := fun V hV => keptT_any V a1 ta tc d1 xs (K9.out.2.2.1 V (hall V hV).2.1).1.tat (hall V hV).2.2.1 (by have := K9.out.2.2.2.1; omega)
      have t4 : ∀ V, Below w9.heap.size w9 V → Calls Try.prog 11 #[.agg #[.slice a2 ys.length d2], .agg #[.slice ua ys.length uc]] V fun e w' => e = .returned (.bool true) ∧ Below V.heap.size V w' := fun V hV => keptT_any V a2 ua uc d2 ys (K9.out.2.2.1 V (hall V hV).2.1).2.tat (hall V hV).2.2.2 (by have := K9.out.2.2.2.2; omega)
      have hc9 : ∀ V, Below w9.heap.size w9 V → V.cell? ⟨g1, 0, none⟩ = some (.slice a1 xs.length d1) ∧ V.cell? ⟨g2, 0, none⟩ = some (.slice a2 ys.length d2) ∧ V.cell? ⟨w.heap.size, 0, none⟩ = some (.slice ta xs.length tc) ∧ V.cell? ⟨w.heap.size + 1, 0, none⟩ = some (.slice ua ys.length uc) ∧ Below w.heap.size w V := fun V hV => by
        obtain ⟨z1, z2⟩ := HS.out V (hall V hV).2.1
        rw [HN.out.1] at z1
        rw [HN.out.2] at z2
        exact ⟨(hl1.below hV hl1.lt).cell 0 rfl, (hl2.below hV hl2.lt).cell 0 rfl, z1, z2, (hall V hV).1⟩
      obtain ⟨nx, hnx⟩ : ∃ k, k = xs.length := ⟨_, rfl⟩
      obtain ⟨ny, hny⟩ : ∃ k, k = ys.length := ⟨_, rfl⟩
      rw [← hnx] at t1 t2 t3 hc9
      rw [← hny] at t1 t2 t4 hc9
      have HT9 := Lib.hid (And.intro t1 (And.intro t2 (And.intro t3 (And.intro t4 hc9))))
      obtain ⟨y0, y1, y2, y3, -⟩ := hc9 w9 (Below.refl _ _)
      clear t1 t2 t3 t4 hc9 htw hall hkx hky hl1 hl2 hb9 hb09 hown1 hown2 hroom1 hroom2 hF1 hF2 hg1 hg2 hcur hnx hny
      have HNN := Lib.hid HN.out
      go_wp2_with fail
      refine (HT9.out.1 _ (Below.refl _ _)).mono ?_
      rintro e u1 ⟨rfl, hu1⟩
      clear y0 y1 y2 y3
      obtain ⟨y0, y1, y2, y3, -⟩ := HT9.out.2.2.2.2 u1 hu1
      have U1 := Lib.hid hu1
      clear hu1
      go_wp2_with fail
      refine (HT9.out.2.1 _ U1.out).mono ?_
      rintro e u2 ⟨rfl, hu2⟩
      have hu2' := U1.out.trans (hu2.mono U1.out.size)
      clear y0 y1 y2 y3 hu2
      obtain ⟨y0, y1, y2, y3, -⟩ := HT9.out.2.2.2.2 u2 hu2'
      have U2 := Lib.hid hu2'
      clear hu2'
      go_wp2_with fail
      refine (HT9.out.2.2.1 _ U2.out).mono ?_
      rintro e u3 ⟨rfl, hu3⟩
      have hu3' := U2.out.trans (hu3.mono U2.out.size)
      clear y0 y1 y2 y3 hu3
      obtain ⟨y0, y1, y2, y3, -⟩ := HT9.out.2.2.2.2 u3 hu3'
      have U3 := Lib.hid hu3'
      clear hu3'
      go_wp2_with fail
      refine (HT9.out.2.2.2.1 _ U3.out).mono ?_
      rintro e u4 ⟨rfl, hu4⟩
      have hu4' := U3.out.trans (hu4.mono U3.out.size)
      clear y0 y1 y2 y3 hu4
      have U4 := Lib.hid hu4'
      clear hu4'
      go_wp2_with fail
      refine (HAW.out _).mono ?_
      rintro e u5 ⟨rfl, hu5⟩
      have hu5' := U4.out.trans (hu5.mono U4.out.size)
      have U5 := Lib.hid ((HT9.out.2.2.2.2 u5 hu5').2.2.2.2)
      clear hu5 hu5'
      go_wp2_with fail
      go_ret
      exact ⟨rfl, U5.out⟩
end Go.Proofs.Ytieoiklgoeclaaa
