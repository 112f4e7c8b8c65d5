/-
  pack: what was got, put again, is the bytes that were read. Plain mathematics.
-/
import Derived.Test.YtilbbemdinpjcaaGreatJYk
import Derived.Test.YtilbbemdinpjcaaGreatJWRNew
set_option maxHeartbeats 16000000
namespace Go.Proofs.YtilbbemdinpjcaaGreat.P
set_option maxRecDepth 100000
open Go.RowKit Go.Sort
theorem same_yes (w : World) (a b : Th) (ha : ThOk w a) (hb : ThOk w b) (heq : thV a = thV b) :
  Calls Tryz.prog 23 #[.agg (thC a), .agg (thC b)] w fun e w' => e = .returned (.bool true) ∧ Below w.heap.size w w' := by
 obtain ⟨b1, b2, b3, b4⟩ := box_two w (thC a) (thC b) 42 42
 obtain ⟨W0, HW⟩ : ∃ W0, (w.alloc (.cells (thC a) 42)).alloc (.cells (thC b) 42) = W0 := ⟨_, rfl⟩
 rw [HW] at b1 b2 b3 b4
 have e1 : b.ns = a.ns := (congrArg ThV.ns heq).symm
 have e2 : b.l = a.l := (congrArg ThV.l heq).symm
 have e3 : b.v.coin = a.v.coin := (congrArg ThV.coin heq).symm
 have e4 : b.v.l = a.v.l := (congrArg ThV.vl heq).symm
 have e5 : b.t = a.t := (congrArg ThV.t heq).symm
 have e6 : outV a.o = outV b.o := congrArg ThV.o heq
 have e7 : b.r = a.r := (congrArg ThV.r heq).symm
 have e8 : a.es.map enV = b.es.map enV := congrArg ThV.es heq
 have e9 : diV a.d = diV b.d := congrArg ThV.d heq
 obtain ⟨n1, hn1⟩ : ∃ y, y = a.ns.length := ⟨_, rfl⟩
 obtain ⟨n2, hn2⟩ : ∃ y, y = a.l.length := ⟨_, rfl⟩
 obtain ⟨n3, hn3⟩ : ∃ y, y = a.v.l.length := ⟨_, rfl⟩
 obtain ⟨n4, hn4⟩ : ∃ y, y = a.t.length := ⟨_, rfl⟩
 obtain ⟨n5, hn5⟩ : ∃ y, y = a.es.length := ⟨_, rfl⟩
 obtain ⟨n6, hn6⟩ : ∃ y, y = b.es.length := ⟨_, rfl⟩
 obtain ⟨cn, hcn⟩ : ∃ y, y = a.v.coin := ⟨_, rfl⟩
 obtain ⟨ta, hta⟩ : ∃ y, y = a.tp := ⟨_, rfl⟩
 obtain ⟨tb, htb⟩ : ∃ y, y = b.tp := ⟨_, rfl⟩
 obtain ⟨xa, hxa⟩ : ∃ y, y = a.tc := ⟨_, rfl⟩
 obtain ⟨xb, hxb⟩ : ∃ y, y = b.tc := ⟨_, rfl⟩
 obtain ⟨aa, haa⟩ : ∃ y, y = a.pa := ⟨_, rfl⟩
 obtain ⟨ab, hab⟩ : ∃ y, y = b.pa := ⟨_, rfl⟩
 obtain ⟨ya, hya⟩ : ∃ y, y = a.c := ⟨_, rfl⟩
 obtain ⟨yb, hyb⟩ : ∃ y, y = b.c := ⟨_, rfl⟩
 obtain ⟨va, hva⟩ : ∃ y, y = a.v.pa := ⟨_, rfl⟩
 obtain ⟨vb, hvb⟩ : ∃ y, y = b.v.pa := ⟨_, rfl⟩
 obtain ⟨za, hza⟩ : ∃ y, y = a.v.c := ⟨_, rfl⟩
 obtain ⟨zb, hzb⟩ : ∃ y, y = b.v.c := ⟨_, rfl⟩
 obtain ⟨sa, hsa⟩ : ∃ y, y = a.pt := ⟨_, rfl⟩
 obtain ⟨sb, hsb⟩ : ∃ y, y = b.pt := ⟨_, rfl⟩
 obtain ⟨ua, hua⟩ : ∃ y, y = a.ct := ⟨_, rfl⟩
 obtain ⟨ub, hub⟩ : ∃ y, y = b.ct := ⟨_, rfl⟩
 obtain ⟨oa, hoa⟩ : ∃ y, y = otC a.o := ⟨_, rfl⟩
 obtain ⟨ob, hob⟩ : ∃ y, y = otC b.o := ⟨_, rfl⟩
 obtain ⟨rc, hrc⟩ : ∃ y, y = refC a.r := ⟨_, rfl⟩
 obtain ⟨ea, hea⟩ : ∃ y, y = a.pe := ⟨_, rfl⟩
 obtain ⟨eb, heb⟩ : ∃ y, y = b.pe := ⟨_, rfl⟩
 obtain ⟨wa, hwa⟩ : ∃ y, y = a.ce := ⟨_, rfl⟩
 obtain ⟨wb, hwb⟩ : ∃ y, y = b.ce := ⟨_, rfl⟩
 obtain ⟨da, hda⟩ : ∃ y, y = dfC a.d := ⟨_, rfl⟩
 obtain ⟨db, hdb⟩ : ∃ y, y = dfC b.d := ⟨_, rfl⟩
 have hoa1 : oa.toList.length = 69 := by rw [hoa, Array.length_toList, otC_size _ ha.o.ah ha.o.dh]
 have hob1 : ob.toList.length = 69 := by rw [hob, Array.length_toList, otC_size _ hb.o.ah hb.o.dh]
 have hrc1 : rc.toList.length = 33 := by rw [hrc, Array.length_toList, refC_size _ ha.r.1]
 have hda1 : da.toList.length = 5 := by rw [hda]; rfl
 have hdb1 : db.toList.length = 5 := by rw [hdb]; rfl
 have hQ : ∀ V, (binOp .eql 37 (.agg rc) (.agg rc)).run Tryz.prog V = .ok (.bool true) V := fun V => by
  have := eq_ref V a.r a.r ha.r ha.r
  rw [← hrc, show decide (a.r = a.r) = true by simp] at this
  exact this
 have ca : ∀ V, Below W0.heap.size W0 V → (V.cell? ⟨w.heap.size, 0, none⟩ = some (.slice ta n1 xa)) ∧ (V.cell? ⟨w.heap.size, 1, none⟩ = some (.slice aa n2 ya)) ∧ (V.cell? ⟨w.heap.size, 2, none⟩ = some (.int .i64 cn) ∧ V.cell? ⟨w.heap.size, 3, none⟩ = some (.slice va n3 za)) ∧ (V.cell? ⟨w.heap.size, 4, none⟩ = some (.slice sa n4 ua)) ∧ (V.rangeAt w.heap.size 5 oa.toList ∧ V.rangeAt w.heap.size 74 rc.toList) ∧ (V.cell? ⟨w.heap.size, 107, none⟩ = some (.slice ea n5 wa)) ∧ (V.rangeAt w.heap.size 108 da.toList) := fun V hV => by
  have h := thAt_of (b1.below hV b1.lt) ha.o.ah ha.o.dh ha.r.1
  rw [hn1, hn2, hn3, hn4, hn5, hcn, hta, hxa, haa, hya, hva, hza, hsa, hua, hoa, hrc, hea, hwa, hda]
  exact ⟨h.t, h.a, ⟨h.c, h.v⟩, h.tot, ⟨h.o, h.r⟩, h.e, h.d⟩
 have cb : ∀ V, Below W0.heap.size W0 V → (V.cell? ⟨w.heap.size + 1, 0, none⟩ = some (.slice tb n1 xb)) ∧ (V.cell? ⟨w.heap.size + 1, 1, none⟩ = some (.slice ab n2 yb)) ∧ (V.cell? ⟨w.heap.size + 1, 2, none⟩ = some (.int .i64 cn) ∧ V.cell? ⟨w.heap.size + 1, 3, none⟩ = some (.slice vb n3 zb)) ∧ (V.cell? ⟨w.heap.size + 1, 4, none⟩ = some (.slice sb n4 ub)) ∧ (V.rangeAt (w.heap.size + 1) 5 ob.toList ∧ V.rangeAt (w.heap.size + 1) 74 rc.toList) ∧ (V.cell? ⟨w.heap.size + 1, 107, none⟩ = some (.slice eb n6 wb)) ∧ (V.rangeAt (w.heap.size + 1) 108 db.toList) := fun V hV => by
  have h := thAt_of (b2.below hV b2.lt) hb.o.ah hb.o.dh hb.r.1
  rw [hn1, hn2, hn3, hn4, hn6, hcn, htb, hxb, hab, hyb, hvb, hzb, hsb, hub, hob, hrc, heb, hwb, hdb, ← e1, ← e2, ← e3, ← e4, ← e5, ← e7]
  exact ⟨h.t, h.a, ⟨h.c, h.v⟩, h.tot, ⟨h.o, h.r⟩, h.e, h.d⟩
 have K0 : Hid (∀ V, Below W0.heap.size W0 V → Calls Tryz.prog 50 #[.agg #[.slice ta n1 xa], .agg #[.slice tb n1 xb]] V fun e w' => e = .returned (.bool true) ∧ Below V.heap.size V w') := Lib.hid fun V hV => by
  have h1 := ha.t.below (b3.trans (hV.mono b3.size)) (Nat.le_refl _)
  have h2 := hb.t.below (b3.trans (hV.mono b3.size)) (Nat.le_refl _)
  rw [e1] at h2
  have h := T.sameTerm_any V ta tb xa xb a.ns a.ns (by rw [hta]; exact h1) (by rw [htb]; exact h2)
  rw [sameN_self, ← hn1] at h
  exact h
 have K1 : Hid (∀ V, Below W0.heap.size W0 V → Calls Tryz.prog 79 #[.slice aa n2 ya, .slice ab n2 yb] V fun e w' => e = .returned (.bool true) ∧ Below V.heap.size V w') := Lib.hid fun V hV => by
  have h1 := ha.a.below (b3.trans (hV.mono b3.size)) (Nat.le_refl _)
  have h2 := hb.a.below (b3.trans (hV.mono b3.size)) (Nat.le_refl _)
  rw [e2] at h2
  have h := same_any V aa ab a.l a.l ya yb (by rw [haa]; exact h1) (by rw [hab]; exact h2)
  rw [show decide (a.l = a.l) = true by simp, ← hn2] at h
  exact h
 have K2 : Hid (∀ V, Below W0.heap.size W0 V → Calls Tryz.prog 80 #[.agg #[.int .i64 cn, .slice va n3 za], .agg #[.int .i64 cn, .slice vb n3 zb]] V fun e w' => e = .returned (.bool true) ∧ Below V.heap.size V w') := Lib.hid fun V hV => by
  have h1 := ha.v.2.2.below (b3.trans (hV.mono b3.size)) (Nat.le_refl _)
  have h2 := hb.v.2.2.below (b3.trans (hV.mono b3.size)) (Nat.le_refl _)
  rw [e4] at h2
  have h := sameV_any V cn cn va vb a.v.l a.v.l za zb (by rw [hva]; exact h1) (by rw [hvb]; exact h2)
  rw [show sameB cn cn a.v.l a.v.l = true by simp [sameB], ← hn3] at h
  exact h
 have K3 : Hid (∀ V, Below W0.heap.size W0 V → Calls Tryz.prog 81 #[.slice sa n4 ua, .slice sb n4 ub] V fun e w' => e = .returned (.bool true) ∧ Below V.heap.size V w') := Lib.hid fun V hV => by
  have h1 := ha.tot.below (b3.trans (hV.mono b3.size)) (Nat.le_refl _)
  have h2 := hb.tot.below (b3.trans (hV.mono b3.size)) (Nat.le_refl _)
  rw [e5] at h2
  have h := sameT_any V sa sb a.t a.t ua ub (by rw [hsa]; exact h1) (by rw [hsb]; exact h2)
  rw [show decide (a.t = a.t) = true by simp, ← hn4] at h
  exact h
 have K4 : Hid (∀ V, Below W0.heap.size W0 V → Calls Tryz.prog 82 #[.agg oa, .agg ob] V fun e w' => e = .returned (.bool true) ∧ Below V.heap.size V w') := Lib.hid fun V hV => by
  have h1 := ha.o.below (b3.trans (hV.mono b3.size)) (Nat.le_refl _)
  have h2 := hb.o.below (b3.trans (hV.mono b3.size)) (Nat.le_refl _)
  have h := sameOutput_yes V a.o b.o h1 h2 e6
  rw [← hoa, ← hob] at h
  exact h
 have K6 : Hid (∀ V, Below W0.heap.size W0 V → Calls Tryz.prog 83 #[.slice ea n5 wa, .slice eb n6 wb] V fun e w' => e = .returned (.bool true) ∧ Below V.heap.size V w') := Lib.hid fun V hV => by
  have h1 := ha.e.below (b3.trans (hV.mono b3.size)) (Nat.le_refl _)
  have h2 := hb.e.below (b3.trans (hV.mono b3.size)) (Nat.le_refl _)
  have h := sameEntries_yes V ea eb a.es b.es wa wb (by rw [hea]; exact h1) (by rw [heb]; exact h2) e8
  rw [← hn5, ← hn6] at h
  exact h
 have K7 : Hid (∀ V, Below W0.heap.size W0 V → Calls Tryz.prog 84 #[.agg da, .agg db] V fun e w' => e = .returned (.bool true) ∧ Below V.heap.size V w') := Lib.hid fun V hV => by
  have h1 := ha.d.below (b3.trans (hV.mono b3.size)) (Nat.le_refl _)
  have h2 := hb.d.below (b3.trans (hV.mono b3.size)) (Nat.le_refl _)
  have h := sameDiff_yes V a.d b.d h1 h2 e9
  rw [← hda, ← hdb] at h
  exact h
 have HC := Lib.hid (And.intro ca cb)
 have HB := Lib.hid b3
 have HI := Lib.hid (And.intro (show (Tryz.prog.info? 35).map (·.size) = some oa.toList.length by rw [hoa1]; exact info_output) (And.intro (show (Tryz.prog.info? 35).map (·.size) = some ob.toList.length by rw [hob1]; exact info_output) (And.intro (show (Tryz.prog.info? 37).map (·.size) = some rc.toList.length by rw [hrc1]; exact info_ref) (And.intro (show (Tryz.prog.info? 40).map (·.size) = some da.toList.length by rw [hda1]; exact info_diff) (show (Tryz.prog.info? 40).map (·.size) = some db.toList.length by rw [hdb1]; exact info_diff)))))
 obtain ⟨ga, hga⟩ : ∃ y, y = thC a := ⟨_, rfl⟩
 obtain ⟨gb, hgb⟩ : ∃ y, y = thC b := ⟨_, rfl⟩
 rw [← hga, ← hgb] at HW ⊢
 clear ha hb heq b1 b2 b3 b4 e1 e2 e3 e4 e5 e6 e7 e8 e9 hoa1 hob1 hrc1 hda1 hdb1 ca cb hga hgb
 clear hn1 hn2 hn3 hn4 hn5 hn6 hcn hta htb hxa hxb haa hab hya hyb hva hvb hza hzb hsa hsb hua hub hoa hob hrc hea heb hwa hwb hda hdb
 go_enter Tryz.func23, Tryz.ntmps23
 obtain ⟨p, hp⟩ : ∃ p, p = w.heap.size := ⟨_, rfl⟩
 obtain ⟨q, hq⟩ : ∃ q, q = w.heap.size + 1 := ⟨_, rfl⟩
 go_upto_region 1 with fail
 rw [← hq, ← hp]
 rw [← hq, ← hp] at HC
 clear HW hp hq
 obtain ⟨⟨x0, -⟩, y0, -⟩ := And.intro (HC.out.1 W0 (Below.refl _ _)) (HC.out.2 W0 (Below.refl _ _))
 have H0 := Lib.hid (show Below W0.heap.size W0 W0 from Below.refl _ _)
 go_wp2_with fail
 refine (K0.out W0 H0.out).mono ?_
 rintro e U1 ⟨rfl, hb⟩
 have hb := H0.out.trans (hb.mono H0.out.size)
 clear x0 y0
 obtain ⟨⟨-, x0, -⟩, -, y0, -⟩ := And.intro (HC.out.1 U1 hb) (HC.out.2 U1 hb)
 have H1 := Lib.hid hb
 clear hb
 go_wp2_with fail
 refine (K1.out U1 H1.out).mono ?_
 rintro e U2 ⟨rfl, hb⟩
 have hb := H1.out.trans (hb.mono H1.out.size)
 clear x0 y0
 obtain ⟨⟨-, -, ⟨x0, x1⟩, -⟩, -, -, ⟨y0, y1⟩, -⟩ := And.intro (HC.out.1 U2 hb) (HC.out.2 U2 hb)
 have H2 := Lib.hid hb
 clear hb
 go_wp2_with fail
 refine (K2.out U2 H2.out).mono ?_
 rintro e U3 ⟨rfl, hb⟩
 have hb := H2.out.trans (hb.mono H2.out.size)
 clear x0 x1 y0 y1
 obtain ⟨⟨-, -, -, x0, -⟩, -, -, -, y0, -⟩ := And.intro (HC.out.1 U3 hb) (HC.out.2 U3 hb)
 have H3 := Lib.hid hb
 clear hb
 go_wp2_with fail
 refine (K3.out U3 H3.out).mono ?_
 rintro e U4 ⟨rfl, hb⟩
 have hb := H3.out.trans (hb.mono H3.out.size)
 clear x0 y0
 obtain ⟨⟨-, -, -, -, ⟨x0, -⟩, -⟩, -, -, -, -, ⟨y0, -⟩, -⟩ := And.intro (HC.out.1 U4 hb) (HC.out.2 U4 hb)
 have HR := Lib.hid (And.intro x0 y0)
 clear x0 y0
 have H4 := Lib.hid hb
 clear hb
 go_wp2_with (first
  | (refine wpList_load_midG (by rfl) 35 _ rfl p 5 rfl oa.toList _ HR.out.1 Tryz.underlying35 rfl HI.out.1 ?_)
  | (refine wpList_load_midG (by rfl) 35 _ rfl q 5 rfl ob.toList _ HR.out.2 Tryz.underlying35 rfl HI.out.2.1 ?_))
 refine (K4.out U4 H4.out).mono ?_
 rintro e U5 ⟨rfl, hb⟩
 have hb := H4.out.trans (hb.mono H4.out.size)
 obtain ⟨⟨-, -, -, -, ⟨-, z0⟩, x0, -⟩, -, -, -, -, ⟨-, z1⟩, y0, -⟩ := And.intro (HC.out.1 U5 hb) (HC.out.2 U5 hb)
 have HR := Lib.hid (And.intro z0 z1)
 clear z0 z1
 have H5 := Lib.hid hb
 clear hb
 go_wp2_with (first
  | (refine wpList_load_midG (by rfl) 37 _ rfl p 74 rfl rc.toList _ HR.out.1 Tryz.underlying37 rfl HI.out.2.2.1 ?_)
  | (refine wpList_load_midG (by rfl) 37 _ rfl q 74 rfl rc.toList _ HR.out.2 Tryz.underlying37 rfl HI.out.2.2.1 ?_))
 refine (K6.out U5 H5.out).mono ?_
 rintro e U7 ⟨rfl, hb⟩
 have hb := H5.out.trans (hb.mono H5.out.size)
 clear x0 y0
 obtain ⟨⟨-, -, -, -, -, -, x0⟩, -, -, -, -, -, -, y0⟩ := And.intro (HC.out.1 U7 hb) (HC.out.2 U7 hb)
 have HR := Lib.hid (And.intro x0 y0)
 clear x0 y0
 have H7 := Lib.hid hb
 clear hb
 go_wp2_with (first
  | (refine wpList_load_midG (by rfl) 40 _ rfl p 108 rfl da.toList _ HR.out.1 Tryz.underlying40 rfl HI.out.2.2.2.1 ?_)
  | (refine wpList_load_midG (by rfl) 40 _ rfl q 108 rfl db.toList _ HR.out.2 Tryz.underlying40 rfl HI.out.2.2.2.2 ?_))
 refine (K7.out U7 H7.out).mono ?_
 rintro e U8 ⟨rfl, hb⟩
 have hb := H7.out.trans (hb.mono H7.out.size)
 have H8 := Lib.hid hb
 clear hb
 have HF := Lib.hid (HB.out.trans (H8.out.mono HB.out.size))
 go_wp2_with fail
 go_ret
 exact ⟨rfl, HF.out⟩
end Go.Proofs.YtilbbemdinpjcaaGreat.P
namespace Go.Proofs.YtilbbemdinpjcaaGreat.P
set_option maxRecDepth 100000
open Go.RowKit Go.Sort
theorem low_wrap (n : Nat) (h : n < 18446744073709551616) : W.low64 (IntKind.i64.wrap (n : Int)) = n := by
 unfold W.low64
 rw [IntKind.wrap_i64]
 omega
theorem low_nat (n : Nat) (h : n < 18446744073709551616) : W.low64 (n : Int) = n := by
 unfold W.low64
 omega
theorem as_sync {xs : List UInt8} {a b : Nat} (h : asE xs (some a) = some b) : asS (some (xs.take a)) (asV xs (some a)) = some (xs.take b) := by
 unfold asE at h
 obtain ⟨a2, e2, _⟩ := numS_some h
 obtain ⟨a1, e1, _⟩ := textS_some e2
 rw [e2] at h
 rw [e1] at e2
 unfold asS asV
 simp only [e1, e2]
 rw [(W.hash_sync e1).2]
 unfold txt
 rw [(W.text_sync e2).2, low_wrap _ (W.numV_fits _ _ _ (by omega)), (W.num_sync h).2]
theorem to_sync {xs : List UInt8} {a b : Nat} (h : toE xs (some a) = some b) : toS (some (xs.take a)) (toV xs (some a)) = some (xs.take b) := by
 unfold toE at h
 obtain ⟨a3, e3, _⟩ := numS_some h
 obtain ⟨a2, e2, _⟩ := numS_some e3
 obtain ⟨a1, e1, _⟩ := textS_some e2
 rw [e3] at h
 rw [e2] at e3
 rw [e1] at e2
 unfold toS toV
 simp only [e1, e2, e3]
 obtain ⟨h1, h2⟩ := hiS_of (W.numV xs (some a2) 8) (W.numV xs (some a3) 8) (W.numV_fits _ _ _ (by omega)) (W.numV_fits _ _ _ (by omega))
 rw [h1, h2, (W.hash_sync e1).2]
 unfold txt
 rw [(W.text_sync e2).2, low_wrap _ (W.numV_fits _ _ _ (by omega)), (W.num_sync e3).2, (W.num_sync h).2]
theorem row_sync {α : Type} {xs : List UInt8} {one : Option Nat → α} {nx : Option Nat → Option Nat} {f : Option (List UInt8) → α → Option (List UInt8)} (hs : ∀ a b, nx (some a) = some b → f (some (xs.take a)) (one (some a)) = some (xs.take b)) (hn : ∀ st p, nx st = some p → ∃ a, st = some a ∧ a + 1 ≤ p) :
    ∀ (n : Nat) (acc : List α) (a : Nat) (l : List α) (p : Nat), rowD one nx n acc (some a) = some (l, some p) → ∃ m, l = acc ++ m ∧ m.length = n ∧ m.foldl f (some (xs.take a)) = some (xs.take p)
  | 0, acc, a, l, p, h => by
    obtain ⟨e1, e2⟩ := Prod.mk.inj (Option.some.inj h)
    obtain rfl := Option.some.inj e2
    exact ⟨[], by rw [← e1, List.append_nil], rfl, rfl⟩
  | n + 1, acc, a, l, p, h => by
    unfold rowD at h
    split at h
    · rename_i hsm
      obtain ⟨b, hb⟩ := Option.isSome_iff_exists.1 hsm
      rw [hb] at h
      obtain ⟨m, e1, e2, e3⟩ := row_sync hs hn n _ b l p h
      refine ⟨one (some a) :: m, by rw [e1, List.append_assoc]; rfl, by rw [List.length_cons, e2], ?_⟩
      rw [List.foldl_cons, hs a b hb, e3]
    · cases h
theorem numS_at {xs : List UInt8} {a n p : Nat} (h : W.numS xs (some a) n = some p) : p = a + n := by
 obtain ⟨b, e, h⟩ := numS_some h
 cases e
 exact h
theorem assets_sync {xs : List UInt8} {a p : Nat} {l : List As} (h : assetsD xs (some a) = some (l, some p)) : asListS (some (xs.take a)) l = some (xs.take p) := by
 unfold assetsD at h
 obtain ⟨b, hb, _⟩ := rowD_ge (fun st p h => asE_some h) _ _ _ l p h
 rw [hb] at h
 obtain ⟨m, e1, e2, e3⟩ := row_sync (f := asS) (fun a b h => as_sync h) (fun st p h => asE_some h) _ _ b l p h
 rw [List.nil_append] at e1
 subst e1
 unfold asListS
 rw [e2, low_nat _ (W.countV_fits _ _ _), (W.count_sync hb).2, e3]
theorem totals_sync {xs : List UInt8} {a p : Nat} {l : List To} (h : totalsD xs (some a) = some (l, some p)) : totS (some (xs.take a)) l = some (xs.take p) := by
 unfold totalsD at h
 obtain ⟨b, hb, _⟩ := rowD_ge (fun st p h => toE_some h) _ _ _ l p h
 rw [hb] at h
 obtain ⟨m, e1, e2, e3⟩ := row_sync (f := toS) (fun a b h => to_sync h) (fun st p h => toE_some h) _ _ b l p h
 rw [List.nil_append] at e1
 subst e1
 unfold totS
 rw [e2, low_nat _ (W.numV_fits _ _ _ (by omega)), (W.num_sync hb).2, e3]
theorem assets_some {xs : List UInt8} {st : Option Nat} {p : Nat} {l : List As} (h : assetsD xs st = some (l, some p)) : ∃ a, st = some a := by
 unfold assetsD at h
 obtain ⟨b, hb, _⟩ := rowD_ge (fun st p h => asE_some h) _ _ _ l p h
 obtain ⟨a, ha, _⟩ := countS_some hb
 exact ⟨a, ha⟩
theorem totals_some {xs : List UInt8} {st : Option Nat} {p : Nat} {l : List To} (h : totalsD xs st = some (l, some p)) : ∃ a, st = some a := by
 unfold totalsD at h
 obtain ⟨b, hb, _⟩ := rowD_ge (fun st p h => toE_some h) _ _ _ l p h
 obtain ⟨a, ha, _⟩ := numS_some hb
 exact ⟨a, ha⟩
theorem value_sync {xs : List UInt8} {a p : Nat} {y : Int} {l : List As} (h : valD xs (some a) = some ((y, l), some p)) (pa : Option Addr) (c : Nat) : valS (some (xs.take a)) ⟨y, pa, l, c⟩ = some (xs.take p) := by
  unfold valD at h
  cases hd : assetsD xs (W.numS xs (some a) 8) with
  | none => rw [hd] at h; cases h
  | some z =>
    obtain ⟨l2, s2⟩ := z
    rw [hd] at h
    have e := Option.some.inj h
    have e1 : IntKind.i64.wrap (W.numV xs (some a) 8) = y := congrArg (fun z => z.1.1) e
    have e2 : l2 = l := congrArg (fun z => z.1.2) e
    have e3 : s2 = some p := congrArg Prod.snd e
    subst e1 e2 e3
    obtain ⟨b, hb⟩ := assets_some hd
    rw [hb] at hd
    unfold valS
    rw [low_wrap _ (W.numV_fits _ _ _ (by omega)), (W.num_sync hb).2]
    exact assets_sync hd
theorem val_some {xs : List UInt8} {st : Option Nat} {y : Int × List As} {p : Nat} (h : valD xs st = some (y, some p)) : ∃ a, st = some a := by
 obtain ⟨a, ha, _⟩ := valD_ge h
 exact ⟨a, ha⟩
theorem node_sync {xs : List UInt8} {a b : Nat} {kd : Int} (h : ndP xs (some a) kd = some b) : ndT (some (xs.take a)) (ndV xs (some a) kd) = some (xs.take b) := by
 unfold ndP at h
 unfold ndV ndT
 by_cases h1 : kd = 1
 ·
  rw [if_pos h1] at h
  simp only [if_pos h1]
  rw [low_wrap _ (W.numV_fits _ _ _ (by omega)), (W.num_sync h).2]
 rw [if_neg h1] at h
 by_cases h2 : kd = 2
 ·
  rw [if_pos h2] at h
  simp only [if_neg h1, if_pos h2]
  exact (W.text_sync h).2
 rw [if_neg h2] at h
 by_cases h3 : kd = 3
 ·
  rw [if_pos h3] at h
  simp only [if_neg h1, if_neg h2, if_pos h3]
  exact (W.num_sync h).2
 rw [if_neg h3] at h
 by_cases h5 : kd = 5
 ·
  rw [if_pos h5] at h
  simp only [if_neg h1, if_neg h2, if_neg h3, if_pos h5]
  obtain ⟨c, hc, _⟩ := numS_some h
  rw [hc] at h ⊢
  rw [low_nat _ (W.numV_fits _ _ _ (by omega)), low_nat _ (W.numV_fits _ _ _ (by omega)), (W.num_sync hc).2, (W.num_sync h).2]
 ·
  rw [if_neg h5] at h
  simp only [if_neg h1, if_neg h2, if_neg h3, if_neg h5]
  rw [low_nat _ (W.numV_fits _ _ _ (by omega)), (W.num_sync h).2]
theorem ndV_kind (xs : List UInt8) (st : Option Nat) (kd : Int) : (ndV xs st kd).kind = kd := by
 unfold ndV
 split
 ·
  rfl
 split
 ·
  rfl
 split
 ·
  rfl
 split
 ·
  rfl
 ·
  rfl
theorem term_sync {xs : List UInt8} : ∀ (f l : Nat) (acc : List T.Nd) (a : Nat) (ns : List T.Nd) (p : Nat), decT xs f l acc (some a) = some (ns, p) → ∃ m, ns = acc ++ m ∧ termS (some (xs.take a)) m = some (xs.take p)
  | f, 0, acc, a, ns, p, h => by
    rw [decT_end] at h
    have e := Option.some.inj h
    have e1 : acc = ns := congrArg Prod.fst e
    have e2 : a = p := congrArg Prod.snd e
    exact ⟨[], by rw [← e1, List.append_nil], by rw [← e2]; rfl⟩
  | 0, l + 1, acc, a, ns, p, h => by cases h
  | f + 1, l + 1, acc, a, ns, p, h => by
    unfold decT at h
    split at h
    · obtain ⟨b, hb, _⟩ := decT_ge xs _ _ _ _ ns p h
      obtain ⟨c, hc, _⟩ := ndP_some hb
      have hb2 := hb
      rw [hc] at hb2
      rw [hb] at h
      obtain ⟨m, e1, e2⟩ := term_sync f _ _ b ns p h
      refine ⟨_ :: m, by rw [e1, List.append_assoc]; rfl, ?_⟩
      unfold termS at e2 ⊢
      rw [List.foldl_cons, ← e2]
      congr 1
      unfold ndS
      rw [ndV_kind, low_nat _ (W.numV_fits _ _ _ (by omega)), (W.num_sync hc).2, hc]
      exact node_sync hb2
    · cases h
theorem flag_one {xs : List UInt8} {a b : Nat} (h : W.flagS xs (some a) = some b) : W.stepB (some (xs.take a)) [if W.flagV xs (some a) then 1 else 0] = some (xs.take b) := (W.flag_sync h).2
def outSV (st : Option (List UInt8)) (v : OutV) : Option (List UInt8) := outS st ⟨v.prog, v.ah, ⟨v.coin, none, v.l, 0⟩, v.kind, v.dh, none, v.ns, 0⟩
theorem outSV_eq (st : Option (List UInt8)) (o : Ot) : outSV st (outV o) = outS st o := rfl
theorem out_sync {xs : List UInt8} {a p : Nat} {v : OutV} (h : outD xs (some a) = some (v, p)) : outSV (some (xs.take a)) v = some (xs.take p) := by
  have key : ∀ (y : Int) (l : List As) (s2 : Option Nat) (q : Nat), valD xs (adE xs (some a)) = some ((y, l), s2) → W.numS xs s2 1 = some q → W.stepN (valS (W.stepB (W.stepB (some (xs.take a)) [if W.flagV xs (some a) then 1 else 0]) (W.hashV xs (W.flagS xs (some a)))) ⟨y, none, l, 0⟩) (W.low64 (W.numV xs s2 1)) 1 = some (xs.take q) := fun y l s2 q hv hq => by
    obtain ⟨b, hb, _⟩ := numS_some hq
    subst hb
    obtain ⟨c, hc⟩ := val_some hv
    have hc2 := hc
    unfold adE at hc2
    obtain ⟨d, hd, _⟩ := numS_some hc2
    rw [hd] at hc2
    rw [hc] at hv
    rw [flag_one hd, hd, (W.hash_sync hc2).2, value_sync hv none 0, low_nat _ (W.numV_fits _ _ _ (by omega)), (W.num_sync hq).2]
  unfold outD at h
  split at h
  · cases h
  · rename_i y l s2 hv
    split at h
    · rename_i h1
      cases h3 : W.numS xs (W.numS xs s2 1) 32 with
      | none => rw [h3] at h; cases h
      | some q =>
        rw [h3] at h
        have e := Option.some.inj h
        have e1 : _ = v := congrArg Prod.fst e
        have e2 : q = p := congrArg Prod.snd e
        obtain ⟨b, hb, _⟩ := numS_some h3
        rw [hb] at h3 e1
        have hk := key y l s2 b hv hb
        rw [← e1, ← e2]
        unfold outSV outS
        simp only
        rw [h1]
        rw [h1] at hk
        rw [if_pos (show ((1 : Nat) : Int) = 1 from rfl), hk, (W.hash_sync h3).2]
    split at h
    · rename_i h1 h2
      cases h3 : decT xs 100 1 [] (W.numS xs s2 1) with
      | none => rw [h3] at h; cases h
      | some z =>
        obtain ⟨ns, q⟩ := z
        rw [h3] at h
        have e := Option.some.inj h
        have e1 : _ = v := congrArg Prod.fst e
        have e2 : q = p := congrArg Prod.snd e
        obtain ⟨b, hb, _⟩ := decT_ge xs _ _ _ _ ns q h3
        rw [hb] at h3
        have hk := key y l s2 b hv hb
        obtain ⟨m, e4, e5⟩ := term_sync _ _ _ b ns q h3
        rw [List.nil_append] at e4
        rw [← e1, ← e2]
        unfold outSV outS
        simp only
        rw [h2]
        rw [h2] at hk
        rw [if_neg (by decide), if_pos (show ((2 : Nat) : Int) = 2 from rfl), hk, e4, e5]
    · rename_i h1 h2
      cases h3 : W.numS xs s2 1 with
      | none => rw [h3] at h; cases h
      | some q =>
        rw [h3] at h
        have e := Option.some.inj h
        have e1 : _ = v := congrArg Prod.fst e
        have e2 : q = p := congrArg Prod.snd e
        have hk := key y l s2 q hv h3
        rw [← e1, ← e2]
        unfold outSV outS
        simp only
        rw [if_neg (by omega), if_neg (by omega)]
        exact hk
theorem ref_sync {xs : List UInt8} {a b : Nat} (h : rfE xs (some a) = some b) : refS (some (xs.take a)) (rfV xs (some a)) = some (xs.take b) := by
 unfold rfE at h
 obtain ⟨c, hc, _⟩ := countS_some h
 rw [hc] at h
 unfold refS rfV
 simp only [hc]
 rw [(W.hash_sync hc).2, low_nat _ (W.countV_fits _ _ _), (W.count_sync h).2]
def enSV (st : Option (List UInt8)) (y : Rf × OutV) : Option (List UInt8) := outSV (refS st y.1) y.2
theorem enSV_eq (st : Option (List UInt8)) (e : En) : enSV st (enV e) = enS st e := rfl
theorem ent_sync {xs : List UInt8} {a p : Nat} {y : Rf × OutV} (h : entD xs (some a) = some (y, p)) : enSV (some (xs.take a)) y = some (xs.take p) := by
  unfold entD at h
  cases hd : outD xs (rfE xs (some a)) with
  | none => rw [hd] at h; cases h
  | some z =>
    obtain ⟨v, q⟩ := z
    rw [hd] at h
    have e := Option.some.inj h
    have e1 : (rfV xs (some a), v) = y := congrArg Prod.fst e
    have e2 : q = p := congrArg Prod.snd e
    obtain ⟨b, hb, _⟩ := outD_ge hd
    rw [hb] at hd
    rw [← e1, ← e2]
    unfold enSV
    simp only
    rw [ref_sync hb]
    exact out_sync hd
theorem ents_sync {xs : List UInt8} : ∀ (n : Nat) (acc : List (Rf × OutV)) (a : Nat) (l : List (Rf × OutV)) (p : Nat), rowE xs n acc (some a) = some (l, some p) → ∃ m, l = acc ++ m ∧ m.length = n ∧ m.foldl enSV (some (xs.take a)) = some (xs.take p)
  | 0, acc, a, l, p, h => by
    obtain ⟨e1, e2⟩ := Prod.mk.inj (Option.some.inj h)
    obtain rfl := Option.some.inj e2
    exact ⟨[], by rw [← e1, List.append_nil], rfl, rfl⟩
  | n + 1, acc, a, l, p, h => by
    unfold rowE at h
    split at h
    · rename_i y b hb
      obtain ⟨m, e1, e2, e3⟩ := ents_sync n _ b l p h
      refine ⟨y :: m, by rw [e1, List.append_assoc]; rfl, by rw [List.length_cons, e2], ?_⟩
      rw [List.foldl_cons, ent_sync hb, e3]
    · cases h
theorem ents_ge {xs : List UInt8} : ∀ (n : Nat) (acc : List (Rf × OutV)) (st : Option Nat) (l : List (Rf × OutV)) (p : Nat), rowE xs n acc st = some (l, some p) → ∃ a, st = some a ∧ a ≤ p
  | 0, acc, st, l, p, h => by
    obtain ⟨e1, e2⟩ := Prod.mk.inj (Option.some.inj h)
    exact ⟨p, e2, Nat.le_refl _⟩
  | n + 1, acc, st, l, p, h => by
    unfold rowE at h
    split at h
    · rename_i y b hb
      obtain ⟨c, h1, h2⟩ := ents_ge n _ _ l p h
      obtain rfl := Option.some.inj h1
      obtain ⟨a, h3, h4⟩ := entD_some hb
      exact ⟨a, h3, by omega⟩
    · cases h
def ensSV (st : Option (List UInt8)) (l : List (Rf × OutV)) : Option (List UInt8) := l.foldl enSV (W.stepN st (W.low64 l.length) 4)
theorem foldl_enV (l : List En) : ∀ st, (l.map enV).foldl enSV st = l.foldl enS st := by
 induction l with
 | nil => intro st; rfl
 | cons e l ih => intro st; simp only [List.map_cons, List.foldl_cons]; rw [enSV_eq, ih]
theorem ensSV_eq (st : Option (List UInt8)) (l : List En) : ensSV st (l.map enV) = ensS st l := by
 unfold ensSV ensS
 rw [List.length_map, foldl_enV]
theorem entries_sync {xs : List UInt8} {a p : Nat} {l : List (Rf × OutV)} (h : entriesD xs (some a) = some (l, some p)) : ensSV (some (xs.take a)) l = some (xs.take p) := by
 unfold entriesD at h
 obtain ⟨b, hb, _⟩ := ents_ge _ _ _ l p h
 rw [hb] at h
 obtain ⟨m, e1, e2, e3⟩ := ents_sync _ _ b l p h
 rw [List.nil_append] at e1
 subst e1
 unfold ensSV
 rw [e2, low_nat _ (W.numV_fits _ _ _ (by omega)), (W.num_sync hb).2, e3]
theorem entries_some {xs : List UInt8} {st : Option Nat} {p : Nat} {l : List (Rf × OutV)} (h : entriesD xs st = some (l, some p)) : ∃ a, st = some a := by
 unfold entriesD at h
 obtain ⟨b, hb, _⟩ := ents_ge _ _ _ l p h
 obtain ⟨a, ha, _⟩ := numS_some hb
 exact ⟨a, ha⟩
def diffSV (st : Option (List UInt8)) (d : DfV) : Option (List UInt8) := totS (W.stepN (W.stepN (ensSV (ensSV st d.s) d.m) (W.low64 d.fe) 8) (W.low64 d.fo) 8) d.l
theorem diffSV_eq (st : Option (List UInt8)) (d : Df) : diffSV st (diV d) = diffS st d := by
 unfold diffSV diffS diV
 simp only [ensSV_eq]
theorem diff_sync {xs : List UInt8} {a p : Nat} {d : DfV} (h : diffD xs (some a) = some (d, some p)) : diffSV (some (xs.take a)) d = some (xs.take p) := by
 unfold diffD at h
 split at h
 ·
  cases h
 rename_i s s1 h1
 split at h
 ·
  cases h
 rename_i m s2 h2
 split at h
 ·
  cases h
 rename_i l s3 h3
 have e := Option.some.inj h
 have e1 : _ = d := congrArg Prod.fst e
 have e2 : s3 = some p := congrArg Prod.snd e
 subst e2
 obtain ⟨b4, hb4⟩ := totals_some h3
 obtain ⟨b3, hb3, _⟩ := numS_some hb4
 obtain ⟨b2, hb2, _⟩ := numS_some hb3
 subst hb2
 rw [hb3] at hb4 h3 e1
 rw [hb4] at h3
 obtain ⟨b1, hb1⟩ := entries_some h2
 subst hb1
 rw [← e1]
 unfold diffSV i64V
 simp only
 rw [entries_sync h1, entries_sync h2, low_wrap _ (W.numV_fits _ _ _ (by omega)), (W.num_sync hb3).2, low_wrap _ (W.numV_fits _ _ _ (by omega)), (W.num_sync hb4).2, totals_sync h3]
end Go.Proofs.YtilbbemdinpjcaaGreat.P
