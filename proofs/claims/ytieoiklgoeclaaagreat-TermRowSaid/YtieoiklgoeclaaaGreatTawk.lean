/-
  awake (8): the chapter's examples.
-/
import Derived.Test.YtieoiklgoeclaaaGreatTaw
namespace Go.Proofs.YtieoiklgoeclaaaGreat
open Go.RowKit

abbrev nN (n : Int) : Nd := ⟨1, n, 0, ⟨#[]⟩, 0⟩
abbrev nB (s : ByteArray) : Nd := ⟨2, 0, 0, s, 0⟩
abbrev nR (b : Nat) : Nd := ⟨3, 0, b, ⟨#[]⟩, 0⟩
abbrev nL : Nd := ⟨4, 0, 0, ⟨#[]⟩, 0⟩
theorem ex_right : rightB (joinL nL [[nN 1], [nB ⟨#[97, 98]⟩]]) = true := by decide +kernel
theorem ex_deep : deepT (joinL nL [[nN 1], [nB ⟨#[97, 98]⟩]]) = 2 := by decide +kernel
theorem ex_real : ordT [nR 9223372036854775808] [nR 0] = -1 := by decide +kernel
theorem ex_kind : ordT [nN 4611686018427387904] [nB ⟨#[]⟩] = -1 := by decide +kernel
theorem ex_more : ordT (joinL nL [[nN 1]]) (joinL nL [[nN 1], [nN 1]]) = -1 := by decide +kernel
/-- Terms in a row that was just made. -/
theorem row_terms (w : World) (l : List TK) (h : ∀ t ∈ l, TAt w t.a t.xs ∧ t.xs.length ≤ t.c ∧ TxtIn t.xs) : TsAt (w.alloc (.cells (l.map TK.v).toArray 27)) (some ⟨w.heap.size, 0, none⟩) l :=
  ⟨fun _ => ⟨w.heap.size, 0, rfl, by simp, fun j hj => by
    rw [Nat.zero_add]
    exact (Lies.new w _ 27).cell j (by simp [hj])⟩, fun t ht => ⟨(h t ht).1.below ((Below.refl _ w).alloc (Nat.le_refl _) _) (Nat.le_refl _), (h t ht).2⟩⟩

theorem TermR.open {w : World} {xs : List Nd} {e : Ending} {w' : World} (h : TermR w xs e w') : ∃ a c, e = .returned (.agg #[.slice a xs.length c]) ∧ TAt w' a xs ∧ xs.length ≤ c ∧ (a = none → c = 0) ∧ Below w.heap.size w w' := by
  obtain ⟨⟨a, c, xs'⟩, rfl, h1, h2, h3, h4, h5⟩ := h
  exact ⟨a, c, h1, h2, h3, h4, h5⟩
theorem txt_small {xs : List Nd} (h : ∀ x ∈ xs, x.txt.size ≤ 200) : TxtIn xs := fun x hx => Nat.le_trans (h x hx) (by omega)
theorem neg1 : ((-1 : Int) == -1) = true := rfl
set_option maxRecDepth 100000 in
set_option maxHeartbeats 2000000 in
theorem awakeT_any (w : World) : Calls Tryz.prog 12 #[] w fun e w' => e = .returned (.bool true) ∧ Below w.heap.size w w' := by
  have o1 := numT_any w 1
  obtain ⟨xs, hxs⟩ : ∃ xs, xs = joinL nL [[nN 1], [nB ⟨#[97, 98]⟩]] := ⟨_, rfl⟩
  have hxl : xs.length = 3 := by rw [hxs]; rfl
  have hxk : ∃ k n b t, xs[0]? = some ⟨k, n, b, t, 2⟩ := by rw [hxs]; exact ⟨_, _, _, _, rfl⟩
  have hxr : rightB xs = true := by rw [hxs]; exact ex_right
  have hxd : deepOf (ksOf xs) 3 = 2 := by have := ex_deep; rw [← hxs] at this; unfold deepT at this; rwa [hxl] at this
  have X := Lib.hid (And.intro hxs (And.intro hxl (And.intro hxk (And.intro hxr hxd))))
  have O1 := Lib.hid o1
  clear o1 hxs hxl hxk hxr hxd
  go_enter Tryz.func12, Tryz.ntmps12
  go_wp2_with fail
  refine O1.out.mono ?_
  rintro e w1 hr1
  obtain ⟨a1, c1, rfl, ht1, hl1, hn1, hb1⟩ := hr1.open
  simp only [List.length_cons, List.length_nil, Nat.zero_add] at hl1 ⊢
  have G1 := Lib.hid (And.intro ht1 (And.intro hl1 (And.intro hn1 hb1)))
  clear hr1 ht1 hl1 hn1 hb1 O1
  go_wp2_with fail
  refine (blobT_any w1 ⟨#[97, 98]⟩).mono ?_
  rintro e w2 hr2
  obtain ⟨a2, c2, rfl, ht2, hl2, hn2, hb2⟩ := hr2.open
  simp only [List.length_cons, List.length_nil, Nat.zero_add] at hl2 ⊢
  have hrow := row_terms w2 [⟨a1, c1, [nN 1]⟩, ⟨a2, c2, [nB ⟨#[97, 98]⟩]⟩] (by
    intro t ht
    simp only [List.mem_cons, List.not_mem_nil, or_false] at ht
    rcases ht with rfl | rfl
    · exact ⟨G1.out.1.below hb2 (Nat.le_refl _), G1.out.2.1, txt_small (by intro x hx; obtain rfl := List.mem_singleton.1 hx; decide)⟩
    · exact ⟨ht2, hl2, txt_small (by intro x hx; obtain rfl := List.mem_singleton.1 hx; decide)⟩)
  have hbr : Below w.heap.size w (w2.alloc (.cells #[.slice a1 1 c1, .slice a2 1 c2] 27)) := (G1.out.2.2.2.trans (hb2.mono G1.out.2.2.2.size)).alloc (Nat.le_trans G1.out.2.2.2.size hb2.size) _
  have hj := join_any (w2.alloc (.cells #[.slice a1 1 c1, .slice a2 1 c2] 27)) nL (some ⟨w2.heap.size, 0, none⟩) 2 _ hrow (by decide) (by simp) (by simp)
  have G2 := Lib.hid (And.intro hj hbr)
  clear hr2 ht2 hl2 hn2 hb2 hrow hbr hj
  unfold nL Nd.cells at G2
  go_wp2_with fail
  refine G2.out.1.mono ?_
  rintro e w3 ⟨v, rfl, ho, hb3⟩
  obtain ⟨va, vn, vc, rfl⟩ := ho.isSlice
  have hre : [(⟨a1, c1, [nN 1]⟩ : TK), ⟨a2, c2, [nB ⟨#[97, 98]⟩]⟩].map TK.xs = [[nN 1], [nB ⟨#[97, 98]⟩]] := rfl
  rw [hre] at ho
  rw [show joinL ⟨4, 0, 0, ⟨#[]⟩, 0⟩ [[nN 1], [nB ⟨#[97, 98]⟩]] = xs from X.out.1.symm] at ho
  obtain ⟨t1, t2, t3⟩ := ho.tat (by rw [X.out.2.1]; omega) (fun x hx => by
    rw [X.out.1] at hx
    simp only [joinL, List.mem_cons, List.flatten_cons, List.flatten_nil, List.append_nil, List.mem_append, List.not_mem_nil, or_false, List.length_cons, List.length_nil] at hx
    rcases hx with rfl | rfl | rfl <;> simp)
  rw [X.out.2.1] at t2
  subst t2
  have hb3w := G2.out.2.trans (hb3.mono G2.out.2.size)
  have HL := Lies.new w3 #[.slice va 3 vc] 27
  have hb4 : Below w3.heap.size w3 (w3.alloc (.cells #[.slice va 3 vc] 27)) := (Below.refl _ _).alloc (Nat.le_refl _) _
  obtain ⟨g, off, rfl, hN⟩ := t1.1 (by rw [X.out.2.1]; omega)
  obtain ⟨kk, nn, bb, tt, hx0⟩ := X.out.2.2.1
  have hkids : w3.cell? ⟨g, off + 4, none⟩ = some (.int .i64 2) := by
    have h0 : 0 < xs.length := by rw [X.out.2.1]; omega
    have := hN.2 0 h0 4 (.int .i64 2) (by rw [List.getElem?_eq_getElem h0] at hx0; rw [Option.some.inj hx0]; rfl)
    simpa using this
  have G3 := Lib.hid (And.intro t1 (And.intro t3 (And.intro hb3w (And.intro hkids (And.intro HL (And.intro hb4 hN))))))
  clear ho t1 t3 hb3 hb3w hkids HL hb4 hN hx0 hre
  go_upto_region 2 with fail
  generalize w3.alloc (.cells #[.slice (some ⟨g, off, none⟩) 3 vc] 27) = w4 at G3 ⊢
  have c0 := G3.out.2.2.2.2.1.cell 0 (v := .slice (some ⟨g, off, none⟩) 3 vc) rfl
  have c4 : w4.cell? ⟨g, off + 4, none⟩ = some (.int .i64 2) := (G3.out.2.2.2.2.2.1.cell (p := ⟨g, off + 4, none⟩) G3.out.2.2.2.2.2.2.1).trans G3.out.2.2.2.1
  have hT4 := G3.out.1.below G3.out.2.2.2.2.2.1 (Nat.le_refl _)
  have hb4 := G3.out.2.2.1.trans (G3.out.2.2.2.2.2.1.mono G3.out.2.2.1.size)
  have hr := rightT_any w4 (some ⟨g, off, none⟩) vc xs hT4 (by rw [X.out.2.1]; exact G3.out.2.1)
  rw [X.out.2.1, X.out.2.2.2.1] at hr
  have hks : ∀ V, Below w4.heap.size w4 V → KsAt V (some ⟨g, off, none⟩) 3 (ksOf xs) := fun V hV => by
    have := (hT4.below hV (Nat.le_refl _)).ks
    rwa [X.out.2.1] at this
  have hL4 := G3.out.2.2.2.2.1
  have G4 := Lib.hid (And.intro hr (And.intro hks (And.intro hb4 hL4)))
  clear hr hks hb4 hL4 hT4 G3 G2 G1
  go_wp2_with fail
  refine G4.out.1.mono ?_
  rintro e w5 ⟨rfl, hb5⟩
  clear c0 c4
  have c0 := (G4.out.2.2.2.below hb5 G4.out.2.2.2.lt).cell 0 (v := .slice (some ⟨g, off, none⟩) 3 vc) rfl
  have hd := deep_any w5 (some ⟨g, off, none⟩) 3 vc (ksOf xs) (by omega) (G4.out.2.1 w5 hb5)
  rw [X.out.2.2.2.2] at hd
  have G5 := Lib.hid (And.intro hd (G4.out.2.2.1.trans (hb5.mono G4.out.2.2.1.size)))
  clear hd hb5
  go_wp2_with fail
  refine G5.out.1.mono ?_
  rintro e w6 ⟨rfl, hb6⟩
  have G6 := Lib.hid (G5.out.2.trans (hb6.mono G5.out.2.size))
  clear hb6 c0 G4
  have n1 := neg1
  go_wp2_with fail
  refine (realT_any w6 9223372036854775808).mono ?_
  rintro e w7 hr7
  obtain ⟨a7, c7, rfl, ht7, hl7, hn7, hb7⟩ := hr7.open
  simp only [List.length_cons, List.length_nil, Nat.zero_add] at hl7 ⊢
  have G7 := Lib.hid (And.intro ht7 (G6.out.trans (hb7.mono G6.out.size)))
  clear hr7 ht7 hl7 hn7 hb7
  go_wp2_with fail
  refine (realT_any w7 0).mono ?_
  rintro e w8 hr8
  obtain ⟨a8, c8, rfl, ht8, hl8, hn8, hb8⟩ := hr8.open
  simp only [List.length_cons, List.length_nil, Nat.zero_add] at hl8 ⊢
  have ho8 := orderT_any w8 a7 a8 c7 c8 _ _ (G7.out.1.below hb8 (Nat.le_refl _)) ht8
  rw [ex_real] at ho8
  have G8 := Lib.hid (And.intro ho8 (G7.out.2.trans (hb8.mono G7.out.2.size)))
  clear hr8 ht8 hl8 hn8 hb8 ho8
  go_wp2_with fail
  refine G8.out.1.mono ?_
  rintro e w9 ⟨rfl, hb9⟩
  have G9 := Lib.hid (G8.out.2.trans (hb9.mono G8.out.2.size))
  clear hb9
  go_wp2_with fail
  refine (numT_any w9 4611686018427387904).mono ?_
  rintro e wa hra
  obtain ⟨aa, ca, rfl, hta, hla, hna, hba⟩ := hra.open
  simp only [List.length_cons, List.length_nil, Nat.zero_add] at hla ⊢
  have Ga := Lib.hid (And.intro hta (G9.out.trans (hba.mono G9.out.size)))
  clear hra hta hla hna hba
  go_wp2_with fail
  refine (blobT_any wa ⟨#[]⟩).mono ?_
  rintro e wb hrb
  obtain ⟨ab, cb, rfl, htb, hlb, hnb, hbb⟩ := hrb.open
  simp only [List.length_cons, List.length_nil, Nat.zero_add] at hlb ⊢
  have hob := orderT_any wb aa ab ca cb _ _ (Ga.out.1.below hbb (Nat.le_refl _)) htb
  rw [ex_kind] at hob
  have Gb := Lib.hid (And.intro hob (Ga.out.2.trans (hbb.mono Ga.out.2.size)))
  clear hrb htb hlb hnb hbb hob
  go_wp2_with fail
  refine Gb.out.1.mono ?_
  rintro e wc ⟨rfl, hbc⟩
  have Gc := Lib.hid (Gb.out.2.trans (hbc.mono Gb.out.2.size))
  clear hbc
  go_wp2_with fail
  refine (numT_any wc 1).mono ?_
  rintro e wd hrd
  obtain ⟨ad, cd, rfl, htd, hld, hnd, hbd⟩ := hrd.open
  simp only [List.length_cons, List.length_nil, Nat.zero_add] at hld ⊢
  have hrowd := row_terms wd [⟨ad, cd, [nN 1]⟩] (by
    intro t ht
    obtain rfl := List.mem_singleton.1 ht
    exact ⟨htd, hld, txt_small (by intro x hx; obtain rfl := List.mem_singleton.1 hx; decide)⟩)
  have hbrd : Below w.heap.size w (wd.alloc (.cells #[.slice ad 1 cd] 27)) := (Gc.out.trans (hbd.mono Gc.out.size)).alloc (Nat.le_trans Gc.out.size hbd.size) _
  have hofd := ofT_any (wd.alloc (.cells #[.slice ad 1 cd] 27)) 4 (some ⟨wd.heap.size, 0, none⟩) 1 _ hrowd (fun t ht => by obtain rfl := List.mem_singleton.1 ht; exact hnd) (by simp) (by simp)
  have Gd := Lib.hid (And.intro hofd hbrd)
  clear hrd htd hld hnd hbd hrowd hbrd hofd
  go_wp2_with fail
  refine Gd.out.1.mono ?_
  rintro e we hre
  obtain ⟨ae, ce, rfl, hte, hle, hne, hbe⟩ := hre.open
  have Ge := Lib.hid (And.intro hte (Gd.out.2.trans (hbe.mono Gd.out.2.size)))
  clear hre hte hle hne hbe
  go_wp2_with fail
  refine (numT_any we 1).mono ?_
  rintro e wf hrf
  obtain ⟨af, cf, rfl, htf, hlf, hnf, hbf⟩ := hrf.open
  simp only [List.length_cons, List.length_nil, Nat.zero_add] at hlf ⊢
  have Gf := Lib.hid (And.intro htf (And.intro hlf (And.intro hnf (And.intro (Ge.out.1.below hbf (Nat.le_refl _)) (Ge.out.2.trans (hbf.mono Ge.out.2.size))))))
  clear hrf htf hlf hnf hbf
  go_wp2_with fail
  refine (numT_any wf 1).mono ?_
  rintro e wg hrg
  obtain ⟨ag, cg, rfl, htg, hlg, hng, hbg⟩ := hrg.open
  simp only [List.length_cons, List.length_nil, Nat.zero_add] at hlg ⊢
  have hrowg := row_terms wg [⟨af, cf, [nN 1]⟩, ⟨ag, cg, [nN 1]⟩] (by
    intro t ht
    simp only [List.mem_cons, List.not_mem_nil, or_false] at ht
    rcases ht with rfl | rfl
    · exact ⟨Gf.out.1.below hbg (Nat.le_refl _), Gf.out.2.1, txt_small (by intro x hx; obtain rfl := List.mem_singleton.1 hx; decide)⟩
    · exact ⟨htg, hlg, txt_small (by intro x hx; obtain rfl := List.mem_singleton.1 hx; decide)⟩)
  have hag : Below wg.heap.size wg (wg.alloc (.cells #[.slice af 1 cf, .slice ag 1 cg] 27)) := (Below.refl _ _).alloc (Nat.le_refl _) _
  have hbwg := Gf.out.2.2.2.2.trans (hbg.mono Gf.out.2.2.2.2.size)
  have hofg := ofT_any (wg.alloc (.cells #[.slice af 1 cf, .slice ag 1 cg] 27)) 4 (some ⟨wg.heap.size, 0, none⟩) 2 _ hrowg (fun t ht => by
    simp only [List.mem_cons, List.not_mem_nil, or_false] at ht
    rcases ht with rfl | rfl
    · exact Gf.out.2.2.1
    · exact hng) (by simp) (by simp)
  have Gg := Lib.hid (And.intro hofg (And.intro ((Gf.out.2.2.2.1.below hbg (Nat.le_refl _)).below hag (Nat.le_refl _)) (hbwg.trans (hag.mono hbwg.size))))
  clear hrg htg hlg hng hbg hrowg hag hbwg hofg
  go_wp2_with fail
  refine Gg.out.1.mono ?_
  rintro e wh hrh
  obtain ⟨ah, ch, rfl, hth, hlh, hnh, hbh⟩ := hrh.open
  have hoh := orderT_any wh ae ah ce ch _ _ (Gg.out.2.1.below hbh (Nat.le_refl _)) hth
  rw [show ordT (joinL ⟨4, 0, 0, ⟨#[]⟩, 0⟩ ([(⟨ad, cd, [nN 1]⟩ : TK)].map TK.xs)) (joinL ⟨4, 0, 0, ⟨#[]⟩, 0⟩ ([(⟨af, cf, [nN 1]⟩ : TK), ⟨ag, cg, [nN 1]⟩].map TK.xs)) = -1 from ex_more] at hoh
  have Gh := Lib.hid (And.intro hoh (Gg.out.2.2.trans (hbh.mono Gg.out.2.2.size)))
  clear hrh hth hlh hnh hbh hoh
  go_wp2_with fail
  refine Gh.out.1.mono ?_
  rintro e wi ⟨rfl, hbi⟩
  have Gi := Lib.hid (Gh.out.2.trans (hbi.mono Gh.out.2.size))
  clear hbi
  go_wp2_with fail
  go_ret
  exact ⟨rfl, Gi.out⟩
end Go.Proofs.YtieoiklgoeclaaaGreat
