/-
  The sum of any bundles, their exact sums, and whether they balance: the law's walk.
-/
import Derived.Test.YtjngghihciimjaaGreatJSl
namespace Go.Proofs.YtjngghihciimjaaGreat
set_option maxRecDepth 100000
open Go.RowKit Go.Sort Go.Maps
theorem great3 (W : World) {pi pm po : Option Addr} {vs us : List Va} {ml : List As} (h1 : RowV W pi vs) (h2 : Row W pm ml) (h3 : RowV W po us) (ci cm co : Nat) :
  RowR ((W.alloc (.cells #[.int .i64 0, .slice pm ml.length cm] 24)).alloc (.cells #[.slice pi vs.length ci, .slice po us.length co, .slice (some ⟨W.heap.size, 0, none⟩) 1 1] 28)) (some ⟨W.heap.size + 1, 0, none⟩) [⟨pi, vs, ci⟩, ⟨po, us, co⟩, ⟨some ⟨W.heap.size, 0, none⟩, [⟨0, pm, ml, cm⟩], 1⟩] := by
 have hb1 : Below W.heap.size W (W.alloc (.cells #[.int .i64 0, .slice pm ml.length cm] 24)) := (Below.refl _ _).alloc (Nat.le_refl _) _
 have hone : RowV (W.alloc (.cells #[.int .i64 0, .slice pm ml.length cm] 24)) (some ⟨W.heap.size, 0, none⟩) [⟨0, pm, ml, cm⟩] :=
  rowV_of (Lies.new W _ 24) rfl (fun v hv => by
   rw [List.mem_singleton] at hv
   rw [hv]
   exact ⟨show (-9223372036854775808 : Int) ≤ 0 by omega, show (0 : Int) < 9223372036854775808 by omega, h2.below hb1 (Nat.le_refl _)⟩) (show 1 ≤ maxLen by decide)
 have hL := Lies.new (W.alloc (.cells #[.int .i64 0, .slice pm ml.length cm] 24)) #[.slice pi vs.length ci, .slice po us.length co, .slice (some ⟨W.heap.size, 0, none⟩) 1 1] 28
 have hs : (W.alloc (.cells #[.int .i64 0, .slice pm ml.length cm] 24)).heap.size = W.heap.size + 1 := by simp
 generalize W.alloc (.cells #[.int .i64 0, .slice pm ml.length cm] 24) = W1 at hone hb1 hL hs ⊢
 rw [hs] at hL
 have hb2 : Below W1.heap.size W1 (W1.alloc (.cells #[.slice pi vs.length ci, .slice po us.length co, .slice (some ⟨W.heap.size, 0, none⟩) 1 1] 28)) := (Below.refl _ _).alloc (Nat.le_refl _) _
 refine ⟨show 3 ≤ maxLen by decide, fun _ => ⟨W.heap.size + 1, 0, rfl, hL.lt, fun i r hr => ?_⟩⟩
 have hi : i = 0 ∨ i = 1 ∨ i = 2 := by have := (List.getElem?_eq_some_iff.1 hr).1; simp at this; omega
 rcases hi with rfl | rfl | rfl
 ·
  simp at hr; subst hr; exact ⟨hL.cell 0 rfl, (h1.below hb1 (Nat.le_refl _)).below hb2 (Nat.le_refl _)⟩
 ·
  simp at hr; subst hr; exact ⟨hL.cell 1 rfl, (h3.below hb1 (Nat.le_refl _)).below hb2 (Nat.le_refl _)⟩
 ·
  simp at hr; subst hr; exact ⟨hL.cell 2 rfl, hone.below hb2 (Nat.le_refl _)⟩
attribute [-go_sem] Instr.build
set_option maxHeartbeats 40000000 in
theorem sumsLaw_any (w : World) (pi : Option Addr) (vs : List Va) (ci : Nat) (pm : Option Addr) (ml : List As) (cm : Nat) (po : Option Addr) (us : List Va) (co : Nat) (fee : Int)
    (hvi : RowV w pi vs) (hri : ∀ v, v ∈ vs → Room v) (hci : pi = none → ci = 0) (hvm : Row w pm ml) (hcm : pm = none → cm = 0) (hvo : RowV w po us) (hro : ∀ v, v ∈ us → Room v) (hco : po = none → co = 0) (f0 : -9223372036854775808 ≤ fee) (f1 : fee < 9223372036854775808) :
    Calls Tryz.prog 4 #[.slice pi vs.length ci, .slice pm ml.length cm, .slice po us.length co, .int .i64 fee] w fun e w' => e = .returned (.bool true) ∧ Below w.heap.size w w' := by
  have hbw : Below w.heap.size w w := Below.refl _ _
  have HC := Lib.hid (And.intro hri (And.intro hci (And.intro hcm (And.intro hro (And.intro hco (And.intro f0 f1))))))
  clear hri hci hcm hro hco f0 f1
  have hzb : ∀ W, (Instr.build 24 #[(1, .slice pm ml.length cm)]).run Tryz.prog W = .ok (.agg #[.int .i64 0, .slice pm ml.length cm]) W := fun W => run_build W 24 _ _ (by kernel_rfl)
  have hbg : Below w.heap.size w ((w.alloc (.cells #[.int .i64 0, .slice pm ml.length cm] 24)).alloc (.cells #[.slice pi vs.length ci, .slice po us.length co, .slice (some ⟨w.heap.size, 0, none⟩) 1 1] 28)) := ((Below.refl _ _).alloc (Nat.le_refl _) _).alloc (by simp) _
  have hgr := greatX_any ((w.alloc (.cells #[.int .i64 0, .slice pm ml.length cm] 24)).alloc (.cells #[.slice pi vs.length ci, .slice po us.length co, .slice (some ⟨w.heap.size, 0, none⟩) 1 1] 28)) (some ⟨w.heap.size + 1, 0, none⟩) [⟨pi, vs, ci⟩, ⟨po, us, co⟩, ⟨some ⟨w.heap.size, 0, none⟩, [⟨0, pm, ml, cm⟩], 1⟩] 3 (great3 w hvi hvm hvo ci cm co) (show 3 ≤ 10 by decide)
  have HG := Lib.hid (And.intro hgr hbg)
  clear hgr hbg
  have HK := Lib.hid (And.intro hvi (And.intro hvm (And.intro hvo hbw)))
  clear hvi hvm hvo hbw
  go_enter Tryz.func4, Tryz.ntmps4
  go_wp2_with fail
  refine HG.out.1.mono ?_
  rintro e W2 ⟨⟨gb, rfl, hgb⟩, hb⟩
  obtain ⟨hvi, hvm, hvo, hbw⟩ := HK.out
  clear HK
  have hb := HG.out.2.trans (hb.mono HG.out.2.size)
  clear HG hzb
  have hvi := hvi.below hb (Nat.le_refl _)
  have hvm := hvm.below hb (Nat.le_refl _)
  have hvo := hvo.below hb (Nat.le_refl _)
  have hbw := hbw.trans (hb.mono hbw.size)
  clear hb
  cases gb with
  | true =>
    clear hgb
    have HE := Lib.hid hbw
    clear hvi hvm hvo hbw
    go_wp2_with (go_at_call 8; refine (awake_any _).mono ?_; rintro e W3 ⟨rfl, hb3⟩)
    go_ret
    exact ⟨rfl, HE.out.trans (hb3.mono HE.out.size)⟩
  | false =>
    have hfew : (vs.length ≤ 200 ∧ FewV vs) ∧ (us.length ≤ 200 ∧ FewV us) ∧ FewA ml := by
      have h1 := hgb rfl
      have e : cntVs [(⟨0, pm, ml, cm⟩ : Va)] = 1 + cntA ml := by simp [cntVs, cntV]
      simp only [List.map_cons, List.map_nil, List.sum_cons, List.sum_nil, e] at h1
      exact ⟨few_of hvi (by omega), few_of hvo (by omega), few_cnt hvm.2.1 (by omega)⟩
    have HF := Lib.hid hfew
    clear hfew hgb
    have hl1 := fun U (hU : Below W2.heap.size W2 U) => lentVs_any U pi vs ci (hvi.below hU (Nat.le_refl _)) (by have := HF.out.1.1; omega) (fun v hv => Nat.le_trans (HF.out.1.2.2 v hv).1 (by decide)) HC.out.1
    have hl2 := fun U (hU : Below W2.heap.size W2 U) => lentVs_any U po us co (hvo.below hU (Nat.le_refl _)) (by have := HF.out.2.1.1; omega) (fun v hv => Nat.le_trans (HF.out.2.1.2.2 v hv).1 (by decide)) HC.out.2.2.2.1
    have hl3 := fun U (hU : Below W2.heap.size W2 U) => lentA_any U pm ml cm (hvm.below hU (Nat.le_refl _)) HC.out.2.2.1 (Nat.le_trans HF.out.2.2.1 (by decide))
    have HL := Lib.hid (And.intro hl1 (And.intro hl2 hl3))
    clear hl1 hl2 hl3
    have HK := Lib.hid (And.intro hvi (And.intro hvm (And.intro hvo hbw)))
    clear hvi hvm hvo hbw
    go_wp2_with fail
    refine (HL.out.1 _ (Below.refl _ _)).mono ?_
    rintro e W31 ⟨⟨gX, cX, usX, rfl, hx⟩, hb1⟩
    have HX := Lib.hid (And.intro hx hb1)
    clear hx hb1
    go_wp2_with fail
    refine (HL.out.2.1 _ HX.out.2).mono ?_
    rintro e W32 ⟨⟨gY, cY, usY, rfl, hy⟩, hb2⟩
    have HY := Lib.hid (And.intro hy (And.intro hb2 (HX.out.2.trans (hb2.mono HX.out.2.size))))
    clear hy hb2
    go_wp2_with fail
    refine (HL.out.2.2 _ HY.out.2.2).mono ?_
    rintro e W4 ⟨⟨s4, rfl, hm4⟩, hb3⟩
    obtain ⟨gM, cM, rfl, hcM, hoM⟩ := hm4
    have HM := Lib.hid (And.intro (show LentA W4 W32.heap.size ml (.slice (some ⟨gM, 0, none⟩) ml.length cM) from ⟨gM, cM, rfl, hcM, hoM⟩) hb3)
    clear hcM hoM hb3
    go_upto_region 4 with fail
    obtain ⟨hvi, hvm, hvo, hbw⟩ := HK.out
    clear HK
    have hb := HY.out.2.2.trans (HM.out.2.mono HY.out.2.2.size)
    have hvi := hvi.below hb (Nat.le_refl _)
    have hvm := hvm.below hb (Nat.le_refl _)
    have hvo := hvo.below hb (Nat.le_refl _)
    have hbw := hbw.trans (hb.mono hbw.size)
    have hgoodI : ∀ v, v ∈ vs → -9223372036854775808 ≤ v.coin ∧ v.coin < 9223372036854775808 ∧ v.l.length ≤ maxLen ∧ ∀ a, a ∈ v.l → AsOk a := fun v hv => by have := hvi.ok v hv; exact ⟨this.1, this.2.1, this.2.2.1, this.2.2.2.1⟩
    have hgoodO : ∀ v, v ∈ us → -9223372036854775808 ≤ v.coin ∧ v.coin < 9223372036854775808 ∧ v.l.length ≤ maxLen ∧ ∀ a, a ∈ v.l → AsOk a := fun v hv => by have := hvo.ok v hv; exact ⟨this.1, this.2.1, this.2.2.1, this.2.2.2.1⟩
    have hlkx := (HX.out.1.look (fun v hv => (hgoodI v hv).2.2.2)).below (Nat.le_refl _) (HY.out.2.1.trans (HM.out.2.mono HY.out.2.1.size))
    have hlky := (HY.out.1.look (fun v hv => (hgoodO v hv).2.2.2)).below (Nat.le_refl _) HM.out.2
    have hvx := hlkx.row hvi.1 hgoodI
    have hvy := hlky.row hvo.1 hgoodO
    obtain ⟨gM', cM', eM, hlm⟩ := HM.out.1.inn hvm.2.1
    simp only [Value.slice.injEq, Option.some.injEq, Addr.mk.injEq, true_and, and_true] at eM
    obtain ⟨rfl, rfl⟩ := eM
    have hvmm := lent_row hlm hvm.1 hvm.2.1
    have HSX := Lib.hid (And.intro HX.out.1.2.same (And.intro HY.out.1.2.same (And.intro hlkx.len hlky.len)))
    clear hb hgoodI hgoodO HX HY HM HL
    have HK4 := Lib.hid (And.intro hvi (And.intro hvm (And.intro hvo (And.intro hlkx (And.intro hlky (And.intro hlm (And.intro hvx (And.intro hvy (And.intro hvmm hbw)))))))))
    have hb4 : Below W4.heap.size W4 W4 := Below.refl _ _
    have hadd := add_o W4 (some ⟨gX, 0, none⟩) usX cX hvx (by have := HSX.out.2.2.1; have := HF.out.1.1; omega)
    rw [HSX.out.2.2.1] at hadd
    have HG := Lib.hid hadd
    clear hadd
    have HK := Lib.hid (And.intro hvi (And.intro hvm (And.intro hvo (And.intro hlkx (And.intro hlky (And.intro hlm (And.intro hvx (And.intro hvy (And.intro hvmm (And.intro hb4 hbw))))))))))
    clear hvi hvm hvo hlkx hlky hlm hvx hvy hvmm hb4 hbw
    go_wp2_with fail
    refine HG.out.mono ?_
    rintro e UC ⟨⟨ok, C, rfl, hmC, hsC⟩, hb⟩
    obtain ⟨hvi, hvm, hvo, hlkx, hlky, hlm, hvx, hvy, hvmm, hb4, hbw⟩ := HK.out
    clear HK
    clear HG
    have hvi := hvi.below hb (Nat.le_refl _)
    have hvm := hvm.below hb (Nat.le_refl _)
    have hvo := hvo.below hb (Nat.le_refl _)
    have hlkx := hlkx.below (Nat.le_refl _) hb
    have hlky := hlky.below (Nat.le_refl _) hb
    have hlm := hlm.below hb
    have hvx := hvx.below hb (Nat.le_refl _)
    have hvy := hvy.below hb (Nat.le_refl _)
    have hvmm := hvmm.below hb (Nat.le_refl _)
    have hb4 := hb4.trans (hb.mono hb4.size)
    have hbw := hbw.trans (hb.mono hbw.size)
    clear hb
    have HSC := Lib.hid hsC
    clear hsC
    have HK := Lib.hid (And.intro hvi (And.intro hvm (And.intro hvo (And.intro hlkx (And.intro hlky (And.intro hlm (And.intro hvx (And.intro hvy (And.intro hvmm (And.intro hb4 (And.intro hmC hbw)))))))))))
    clear hvi hvm hvo hlkx hlky hlm hvx hvy hvmm hb4 hmC hbw
    go_upto_region 5 with fail
    obtain ⟨hvi, hvm, hvo, hlkx, hlky, hlm, hvx, hvy, hvmm, hb4, hmC, hbw⟩ := HK.out
    clear HK
    have hb : Below UC.heap.size UC (UC.alloc (.cells #[.int .i64 C.coin, .slice C.pa C.l.length C.c] 24)) := (Below.refl _ _).alloc (Nat.le_refl _) _
    have hC : Lies (UC.alloc (.cells #[.int .i64 C.coin, .slice C.pa C.l.length C.c] 24)) UC.heap.size #[.int .i64 C.coin, .slice C.pa C.l.length C.c] 24 := Lies.new _ _ _
    generalize UC.alloc (.cells #[.int .i64 C.coin, .slice C.pa C.l.length C.c] 24) = W5 at hb hC ⊢
    obtain ⟨bC, hbe⟩ : ∃ b, b = UC.heap.size := ⟨_, rfl⟩
    rw [← hbe] at hC ⊢
    clear hbe
    have hvi := hvi.below hb (Nat.le_refl _)
    have hvm := hvm.below hb (Nat.le_refl _)
    have hvo := hvo.below hb (Nat.le_refl _)
    have hlkx := hlkx.below (Nat.le_refl _) hb
    have hlky := hlky.below (Nat.le_refl _) hb
    have hlm := hlm.below hb
    have hvx := hvx.below hb (Nat.le_refl _)
    have hvy := hvy.below hb (Nat.le_refl _)
    have hvmm := hvmm.below hb (Nat.le_refl _)
    have hb4 := hb4.trans (hb.mono hb4.size)
    have hmC := hmC.below hb
    have hbw := hbw.trans (hb.mono hbw.size)
    clear hb
    have hadd := radd_any W5 pi vs ci hvi HF.out.1.2.cts (fun p hp => ⟨(HF.out.1.2.names p hp).1, Nat.le_trans (HF.out.1.2.names p hp).2 (by decide)⟩)
    have HG := Lib.hid hadd
    clear hadd
    have HK := Lib.hid (And.intro hC (And.intro hvi (And.intro hvm (And.intro hvo (And.intro hlkx (And.intro hlky (And.intro hlm (And.intro hvx (And.intro hvy (And.intro hvmm (And.intro hb4 (And.intro hmC hbw))))))))))))
    clear hC hvi hvm hvo hlkx hlky hlm hvx hvy hvmm hb4 hmC hbw
    go_wp2_with fail
    refine HG.out.mono ?_
    rintro e UD ⟨hres, hb⟩
    obtain ⟨is, D, rfl, hmD, hsD⟩ : ∃ (ok : Bool) (S : Va), e = .returned (.tuple #[.agg #[.int .i64 S.coin, .slice S.pa S.l.length S.c], .bool ok]) ∧ Row UD S.pa S.l ∧ AddM vs ok S.coin S.l := by
      obtain ⟨ok, coin, l, p, c, h1, h2, h3⟩ := hres
      exact ⟨ok, ⟨coin, p, l, c⟩, h1, h2, h3⟩
    obtain ⟨hC, hvi, hvm, hvo, hlkx, hlky, hlm, hvx, hvy, hvmm, hb4, hmC, hbw⟩ := HK.out
    clear HK
    clear HG
    have hC := hC.below hb hC.lt
    have hvi := hvi.below hb (Nat.le_refl _)
    have hvm := hvm.below hb (Nat.le_refl _)
    have hvo := hvo.below hb (Nat.le_refl _)
    have hlkx := hlkx.below (Nat.le_refl _) hb
    have hlky := hlky.below (Nat.le_refl _) hb
    have hlm := hlm.below hb
    have hvx := hvx.below hb (Nat.le_refl _)
    have hvy := hvy.below hb (Nat.le_refl _)
    have hvmm := hvmm.below hb (Nat.le_refl _)
    have hb4 := hb4.trans (hb.mono hb4.size)
    have hmC := hmC.below hb
    have hbw := hbw.trans (hb.mono hbw.size)
    clear hb
    have HSD := Lib.hid hsD
    clear hsD
    have HK := Lib.hid (And.intro hC (And.intro hvi (And.intro hvm (And.intro hvo (And.intro hlkx (And.intro hlky (And.intro hlm (And.intro hvx (And.intro hvy (And.intro hvmm (And.intro hb4 (And.intro hmC (And.intro hmD hbw)))))))))))))
    clear hC hvi hvm hvo hlkx hlky hlm hvx hvy hvmm hb4 hmC hmD hbw
    go_upto_region 6 with fail
    obtain ⟨hC, hvi, hvm, hvo, hlkx, hlky, hlm, hvx, hvy, hvmm, hb4, hmC, hmD, hbw⟩ := HK.out
    clear HK
    have hb : Below UD.heap.size UD (UD.alloc (.cells #[.int .i64 D.coin, .slice D.pa D.l.length D.c] 24)) := (Below.refl _ _).alloc (Nat.le_refl _) _
    have hD : Lies (UD.alloc (.cells #[.int .i64 D.coin, .slice D.pa D.l.length D.c] 24)) UD.heap.size #[.int .i64 D.coin, .slice D.pa D.l.length D.c] 24 := Lies.new _ _ _
    generalize UD.alloc (.cells #[.int .i64 D.coin, .slice D.pa D.l.length D.c] 24) = W6 at hb hD ⊢
    obtain ⟨bD, hbe⟩ : ∃ b, b = UD.heap.size := ⟨_, rfl⟩
    rw [← hbe] at hD ⊢
    clear hbe
    have hC := hC.below hb hC.lt
    have hvi := hvi.below hb (Nat.le_refl _)
    have hvm := hvm.below hb (Nat.le_refl _)
    have hvo := hvo.below hb (Nat.le_refl _)
    have hlkx := hlkx.below (Nat.le_refl _) hb
    have hlky := hlky.below (Nat.le_refl _) hb
    have hlm := hlm.below hb
    have hvx := hvx.below hb (Nat.le_refl _)
    have hvy := hvy.below hb (Nat.le_refl _)
    have hvmm := hvmm.below hb (Nat.le_refl _)
    have hb4 := hb4.trans (hb.mono hb4.size)
    have hmC := hmC.below hb
    have hmD := hmD.below hb (Nat.le_refl _)
    have hbw := hbw.trans (hb.mono hbw.size)
    clear hb
    obtain ⟨rfl, e2, e3⟩ := AddM.ok_of (addZ_same HSX.out.1) HSC.out HSD.out
    have HCD := Lib.hid (And.intro e2 e3)
    clear e2 e3
    have HLC := Lib.hid (own_lt hmC)
    have HW46 := Lib.hid hb4.size
    have HK6 := Lib.hid (And.intro hC (And.intro hD (And.intro hvi (And.intro hvm (And.intro hvo (And.intro hlkx (And.intro hlky (And.intro hlm (And.intro hvx (And.intro hvy (And.intro hvmm (And.intro hb4 (And.intro hmC (And.intro hmD hbw))))))))))))))
    have hb6 : Below W6.heap.size W6 W6 := Below.refl _ _
    have hsum := sumsR_any totals_any W6 (some ⟨gX, 0, none⟩) usX cX hvx (few_same HSX.out.1 HF.out.1.2).cts (few_same HSX.out.1 HF.out.1.2).wide
    rw [HSX.out.2.2.1] at hsum
    have HG := Lib.hid hsum
    clear hsum
    have HK := Lib.hid (And.intro hC (And.intro hD (And.intro hvi (And.intro hvm (And.intro hvo (And.intro hlkx (And.intro hlky (And.intro hlm (And.intro hvx (And.intro hvy (And.intro hvmm (And.intro hb4 (And.intro hmC (And.intro hmD (And.intro hb6 hbw)))))))))))))))
    clear hC hD hvi hvm hvo hlkx hlky hlm hvx hvy hvmm hb4 hmC hmD hb6 hbw
    go_wp2_with fail
    refine HG.out.mono ?_
    rintro e US ⟨⟨pS, lS, cS, rfl, htS, hTS, _, hrmS⟩, hb⟩
    rw [(same_sums HSX.out.1).1]
    rw [(same_sums HSX.out.1).2.1] at hTS
    obtain ⟨sh, hsh⟩ : ∃ x, x = hiS (coinS vs) := ⟨_, rfl⟩
    obtain ⟨sl, hsl⟩ : ∃ x, x = loN (coinS vs) := ⟨_, rfl⟩
    have HW := Lib.hid (show wv (coinS vs) = .agg #[.int .i64 sh, .int .u64 sl] by rw [hsh, hsl]; rfl)
    clear hsh hsl
    have HTS := Lib.hid hTS
    clear hTS
    rw [HW.out]
    obtain ⟨hC, hD, hvi, hvm, hvo, hlkx, hlky, hlm, hvx, hvy, hvmm, hb4, hmC, hmD, hb6, hbw⟩ := HK.out
    clear HK
    clear HG
    have hC := hC.below hb hC.lt
    have hD := hD.below hb hD.lt
    have hvi := hvi.below hb (Nat.le_refl _)
    have hvm := hvm.below hb (Nat.le_refl _)
    have hvo := hvo.below hb (Nat.le_refl _)
    have hlkx := hlkx.below (Nat.le_refl _) hb
    have hlky := hlky.below (Nat.le_refl _) hb
    have hlm := hlm.below hb
    have hvx := hvx.below hb (Nat.le_refl _)
    have hvy := hvy.below hb (Nat.le_refl _)
    have hvmm := hvmm.below hb (Nat.le_refl _)
    have hb4 := hb4.trans (hb.mono hb4.size)
    have hmC := hmC.below hb
    have hmD := hmD.below hb (Nat.le_refl _)
    have hb6 := hb6.trans (hb.mono hb6.size)
    have hbw := hbw.trans (hb.mono hbw.size)
    clear hb
    have HK := Lib.hid (And.intro hC (And.intro hD (And.intro hvi (And.intro hvm (And.intro hvo (And.intro hlkx (And.intro hlky (And.intro hlm (And.intro hvx (And.intro hvy (And.intro hvmm (And.intro hb4 (And.intro hmC (And.intro hmD (And.intro hb6 (And.intro htS (And.intro hrmS hbw)))))))))))))))))
    clear hC hD hvi hvm hvo hlkx hlky hlm hvx hvy hvmm hb4 hmC hmD hb6 htS hrmS hbw
    go_upto_region 7 with fail
    obtain ⟨hC, hD, hvi, hvm, hvo, hlkx, hlky, hlm, hvx, hvy, hvmm, hb4, hmC, hmD, hb6, htS, hrmS, hbw⟩ := HK.out
    clear HK
    have hb : Below US.heap.size US (US.alloc (.cells #[.int .i64 sh, .int .u64 sl] 48)) := (Below.refl _ _).alloc (Nat.le_refl _) _
    have hS : Lies (US.alloc (.cells #[.int .i64 sh, .int .u64 sl] 48)) US.heap.size #[.int .i64 sh, .int .u64 sl] 48 := Lies.new _ _ _
    generalize US.alloc (.cells #[.int .i64 sh, .int .u64 sl] 48) = W7 at hb hS ⊢
    obtain ⟨bS, hbe⟩ : ∃ b, b = US.heap.size := ⟨_, rfl⟩
    rw [← hbe] at hS ⊢
    clear hbe
    have hC := hC.below hb hC.lt
    have hD := hD.below hb hD.lt
    have hvi := hvi.below hb (Nat.le_refl _)
    have hvm := hvm.below hb (Nat.le_refl _)
    have hvo := hvo.below hb (Nat.le_refl _)
    have hlkx := hlkx.below (Nat.le_refl _) hb
    have hlky := hlky.below (Nat.le_refl _) hb
    have hlm := hlm.below hb
    have hvx := hvx.below hb (Nat.le_refl _)
    have hvy := hvy.below hb (Nat.le_refl _)
    have hvmm := hvmm.below hb (Nat.le_refl _)
    have hb4 := hb4.trans (hb.mono hb4.size)
    have hmC := hmC.below hb
    have hmD := hmD.below hb (Nat.le_refl _)
    have hb6 := hb6.trans (hb.mono hb6.size)
    have htS := htS.below hb (Nat.le_refl _)
    have hrmS := hrmS.below hb
    have hbw := hbw.trans (hb.mono hbw.size)
    clear hb
    have hsum := rsums_any W7 pi vs ci hvi HF.out.1.2.cts (fun p hp => ⟨(HF.out.1.2.names p hp).1, Nat.le_trans (HF.out.1.2.names p hp).2 (by decide)⟩)
    have HG := Lib.hid hsum
    clear hsum
    have HK := Lib.hid (And.intro hC (And.intro hD (And.intro hS (And.intro hvi (And.intro hvm (And.intro hvo (And.intro hlkx (And.intro hlky (And.intro hlm (And.intro hvx (And.intro hvy (And.intro hvmm (And.intro hb4 (And.intro hmC (And.intro hmD (And.intro hb6 (And.intro htS (And.intro hrmS hbw))))))))))))))))))
    clear hC hD hS hvi hvm hvo hlkx hlky hlm hvx hvy hvmm hb4 hmC hmD hb6 htS hrmS hbw
    go_wp2_with fail
    refine HG.out.mono ?_
    rintro e UR ⟨⟨pR, lR, cR, rfl, htR, hTR⟩, hb⟩
    obtain rfl : lS = lR := ctT_inj (HTS.out.eq hTR)
    clear hTR
    rw [HW.out]
    obtain ⟨hC, hD, hS, hvi, hvm, hvo, hlkx, hlky, hlm, hvx, hvy, hvmm, hb4, hmC, hmD, hb6, htS, hrmS, hbw⟩ := HK.out
    clear HK
    clear HG
    have hC := hC.below hb hC.lt
    have hD := hD.below hb hD.lt
    have hS := hS.below hb hS.lt
    have hvi := hvi.below hb (Nat.le_refl _)
    have hvm := hvm.below hb (Nat.le_refl _)
    have hvo := hvo.below hb (Nat.le_refl _)
    have hlkx := hlkx.below (Nat.le_refl _) hb
    have hlky := hlky.below (Nat.le_refl _) hb
    have hlm := hlm.below hb
    have hvx := hvx.below hb (Nat.le_refl _)
    have hvy := hvy.below hb (Nat.le_refl _)
    have hvmm := hvmm.below hb (Nat.le_refl _)
    have hb4 := hb4.trans (hb.mono hb4.size)
    have hmC := hmC.below hb
    have hmD := hmD.below hb (Nat.le_refl _)
    have hb6 := hb6.trans (hb.mono hb6.size)
    have htS := htS.below hb (Nat.le_refl _)
    have hrmS := hrmS.below hb
    have hbw := hbw.trans (hb.mono hbw.size)
    clear hb
    have HK := Lib.hid (And.intro hC (And.intro hD (And.intro hS (And.intro hvi (And.intro hvm (And.intro hvo (And.intro hlkx (And.intro hlky (And.intro hlm (And.intro hvx (And.intro hvy (And.intro hvmm (And.intro hb4 (And.intro hmC (And.intro hmD (And.intro hb6 (And.intro htS (And.intro hrmS (And.intro htR hbw)))))))))))))))))))
    clear hC hD hS hvi hvm hvo hlkx hlky hlm hvx hvy hvmm hb4 hmC hmD hb6 htS hrmS htR hbw
    go_upto_region 8 with fail
    obtain ⟨hC, hD, hS, hvi, hvm, hvo, hlkx, hlky, hlm, hvx, hvy, hvmm, hb4, hmC, hmD, hb6, htS, hrmS, htR, hbw⟩ := HK.out
    clear HK
    have hb : Below UR.heap.size UR (UR.alloc (.cells #[.int .i64 sh, .int .u64 sl] 48)) := (Below.refl _ _).alloc (Nat.le_refl _) _
    have hR : Lies (UR.alloc (.cells #[.int .i64 sh, .int .u64 sl] 48)) UR.heap.size #[.int .i64 sh, .int .u64 sl] 48 := Lies.new _ _ _
    generalize UR.alloc (.cells #[.int .i64 sh, .int .u64 sl] 48) = W8 at hb hR ⊢
    obtain ⟨bR, hbe⟩ : ∃ b, b = UR.heap.size := ⟨_, rfl⟩
    rw [← hbe] at hR ⊢
    clear hbe
    have hC := hC.below hb hC.lt
    have hD := hD.below hb hD.lt
    have hS := hS.below hb hS.lt
    have hvi := hvi.below hb (Nat.le_refl _)
    have hvm := hvm.below hb (Nat.le_refl _)
    have hvo := hvo.below hb (Nat.le_refl _)
    have hlkx := hlkx.below (Nat.le_refl _) hb
    have hlky := hlky.below (Nat.le_refl _) hb
    have hlm := hlm.below hb
    have hvx := hvx.below hb (Nat.le_refl _)
    have hvy := hvy.below hb (Nat.le_refl _)
    have hvmm := hvmm.below hb (Nat.le_refl _)
    have hb4 := hb4.trans (hb.mono hb4.size)
    have hmC := hmC.below hb
    have hmD := hmD.below hb (Nat.le_refl _)
    have hb6 := hb6.trans (hb.mono hb6.size)
    have htS := htS.below hb (Nat.le_refl _)
    have hrmS := hrmS.below hb
    have htR := htR.below hb (Nat.le_refl _)
    have hbw := hbw.trans (hb.mono hbw.size)
    clear hb
    have HW68 := Lib.hid (And.intro hb6.size (fun a (e : pS = some a) => (room_lt hrmS a e).2))
    have hsum := sumsR_any totals_any W8 (some ⟨gX, 0, none⟩) usX cX hvx (few_same HSX.out.1 HF.out.1.2).cts (few_same HSX.out.1 HF.out.1.2).wide
    rw [HSX.out.2.2.1] at hsum
    have HG := Lib.hid hsum
    clear hsum
    have HK := Lib.hid (And.intro hC (And.intro hD (And.intro hS (And.intro hR (And.intro hvi (And.intro hvm (And.intro hvo (And.intro hlkx (And.intro hlky (And.intro hlm (And.intro hvx (And.intro hvy (And.intro hvmm (And.intro hb4 (And.intro hmC (And.intro hmD (And.intro hb6 (And.intro htS (And.intro hrmS (And.intro htR hbw))))))))))))))))))))
    clear hC hD hS hR hvi hvm hvo hlkx hlky hlm hvx hvy hvmm hb4 hmC hmD hb6 htS hrmS htR hbw
    go_wp2_with fail
    refine HG.out.mono ?_
    rintro e UA ⟨⟨pA, lA, cA, rfl, htA, hTA, _, hrmA⟩, hb⟩
    rw [(same_sums HSX.out.1).1]
    rw [(same_sums HSX.out.1).2.1] at hTA
    obtain rfl : lS = lA := ctT_inj (HTS.out.eq hTA)
    clear hTA
    rw [HW.out]
    obtain ⟨hC, hD, hS, hR, hvi, hvm, hvo, hlkx, hlky, hlm, hvx, hvy, hvmm, hb4, hmC, hmD, hb6, htS, hrmS, htR, hbw⟩ := HK.out
    clear HK
    clear HG
    have hC := hC.below hb hC.lt
    have hD := hD.below hb hD.lt
    have hS := hS.below hb hS.lt
    have hR := hR.below hb hR.lt
    have hvi := hvi.below hb (Nat.le_refl _)
    have hvm := hvm.below hb (Nat.le_refl _)
    have hvo := hvo.below hb (Nat.le_refl _)
    have hlkx := hlkx.below (Nat.le_refl _) hb
    have hlky := hlky.below (Nat.le_refl _) hb
    have hlm := hlm.below hb
    have hvx := hvx.below hb (Nat.le_refl _)
    have hvy := hvy.below hb (Nat.le_refl _)
    have hvmm := hvmm.below hb (Nat.le_refl _)
    have hb4 := hb4.trans (hb.mono hb4.size)
    have hmC := hmC.below hb
    have hmD := hmD.below hb (Nat.le_refl _)
    have hb6 := hb6.trans (hb.mono hb6.size)
    have htS := htS.below hb (Nat.le_refl _)
    have hrmS := hrmS.below hb
    have htR := htR.below hb (Nat.le_refl _)
    have hbw := hbw.trans (hb.mono hbw.size)
    clear hb
    have HK := Lib.hid (And.intro hC (And.intro hD (And.intro hS (And.intro hR (And.intro hvi (And.intro hvm (And.intro hvo (And.intro hlkx (And.intro hlky (And.intro hlm (And.intro hvx (And.intro hvy (And.intro hvmm (And.intro hb4 (And.intro hmC (And.intro hmD (And.intro hb6 (And.intro htS (And.intro hrmS (And.intro htR (And.intro htA (And.intro hrmA hbw))))))))))))))))))))))
    clear hC hD hS hR hvi hvm hvo hlkx hlky hlm hvx hvy hvmm hb4 hmC hmD hb6 htS hrmS htR htA hrmA hbw
    go_upto_region 9 with fail
    obtain ⟨hC, hD, hS, hR, hvi, hvm, hvo, hlkx, hlky, hlm, hvx, hvy, hvmm, hb4, hmC, hmD, hb6, htS, hrmS, htR, htA, hrmA, hbw⟩ := HK.out
    clear HK
    have hb : Below UA.heap.size UA (UA.alloc (.cells #[.int .i64 sh, .int .u64 sl] 48)) := (Below.refl _ _).alloc (Nat.le_refl _) _
    have hA : Lies (UA.alloc (.cells #[.int .i64 sh, .int .u64 sl] 48)) UA.heap.size #[.int .i64 sh, .int .u64 sl] 48 := Lies.new _ _ _
    generalize UA.alloc (.cells #[.int .i64 sh, .int .u64 sl] 48) = W9 at hb hA ⊢
    obtain ⟨bA, hbe⟩ : ∃ b, b = UA.heap.size := ⟨_, rfl⟩
    rw [← hbe] at hA ⊢
    clear hbe
    have hC := hC.below hb hC.lt
    have hD := hD.below hb hD.lt
    have hS := hS.below hb hS.lt
    have hR := hR.below hb hR.lt
    have hvi := hvi.below hb (Nat.le_refl _)
    have hvm := hvm.below hb (Nat.le_refl _)
    have hvo := hvo.below hb (Nat.le_refl _)
    have hlkx := hlkx.below (Nat.le_refl _) hb
    have hlky := hlky.below (Nat.le_refl _) hb
    have hlm := hlm.below hb
    have hvx := hvx.below hb (Nat.le_refl _)
    have hvy := hvy.below hb (Nat.le_refl _)
    have hvmm := hvmm.below hb (Nat.le_refl _)
    have hb4 := hb4.trans (hb.mono hb4.size)
    have hmC := hmC.below hb
    have hmD := hmD.below hb (Nat.le_refl _)
    have hb6 := hb6.trans (hb.mono hb6.size)
    have htS := htS.below hb (Nat.le_refl _)
    have hrmS := hrmS.below hb
    have htR := htR.below hb (Nat.le_refl _)
    have htA := htA.below hb (Nat.le_refl _)
    have hrmA := hrmA.below hb
    have hbw := hbw.trans (hb.mono hbw.size)
    clear hb
    have HW49 := Lib.hid hb4.size
    have HW69 := Lib.hid hb6.size
    have hadd := add_o W9 (some ⟨gX, 0, none⟩) usX cX hvx (by have := HSX.out.2.2.1; have := HF.out.1.1; omega)
    rw [HSX.out.2.2.1] at hadd
    have HG := Lib.hid hadd
    clear hadd
    have HK := Lib.hid (And.intro hC (And.intro hD (And.intro hS (And.intro hR (And.intro hA (And.intro hvi (And.intro hvm (And.intro hvo (And.intro hlkx (And.intro hlky (And.intro hlm (And.intro hvx (And.intro hvy (And.intro hvmm (And.intro hb4 (And.intro hmC (And.intro hmD (And.intro hb6 (And.intro htS (And.intro hrmS (And.intro htR (And.intro htA (And.intro hrmA hbw)))))))))))))))))))))))
    clear hC hD hS hR hA hvi hvm hvo hlkx hlky hlm hvx hvy hvmm hb4 hmC hmD hb6 htS hrmS htR htA hrmA hbw
    go_wp2_with fail
    refine HG.out.mono ?_
    rintro e UE ⟨⟨ok2, E, rfl, hmE, hsE⟩, hb⟩
    obtain ⟨hC, hD, hS, hR, hA, hvi, hvm, hvo, hlkx, hlky, hlm, hvx, hvy, hvmm, hb4, hmC, hmD, hb6, htS, hrmS, htR, htA, hrmA, hbw⟩ := HK.out
    clear HK
    clear HG
    have hC := hC.below hb hC.lt
    have hD := hD.below hb hD.lt
    have hS := hS.below hb hS.lt
    have hR := hR.below hb hR.lt
    have hA := hA.below hb hA.lt
    have hvi := hvi.below hb (Nat.le_refl _)
    have hvm := hvm.below hb (Nat.le_refl _)
    have hvo := hvo.below hb (Nat.le_refl _)
    have hlkx := hlkx.below (Nat.le_refl _) hb
    have hlky := hlky.below (Nat.le_refl _) hb
    have hlm := hlm.below hb
    have hvx := hvx.below hb (Nat.le_refl _)
    have hvy := hvy.below hb (Nat.le_refl _)
    have hvmm := hvmm.below hb (Nat.le_refl _)
    have hb4 := hb4.trans (hb.mono hb4.size)
    have hmC := hmC.below hb
    have hmD := hmD.below hb (Nat.le_refl _)
    have hb6 := hb6.trans (hb.mono hb6.size)
    have htS := htS.below hb (Nat.le_refl _)
    have hrmS := hrmS.below hb
    have htR := htR.below hb (Nat.le_refl _)
    have htA := htA.below hb (Nat.le_refl _)
    have hrmA := hrmA.below hb
    have hbw := hbw.trans (hb.mono hbw.size)
    clear hb
    have HSE := Lib.hid hsE
    clear hsE
    have HK := Lib.hid (And.intro hC (And.intro hD (And.intro hS (And.intro hR (And.intro hA (And.intro hvi (And.intro hvm (And.intro hvo (And.intro hlkx (And.intro hlky (And.intro hlm (And.intro hvx (And.intro hvy (And.intro hvmm (And.intro hb4 (And.intro hmC (And.intro hmD (And.intro hb6 (And.intro htS (And.intro hrmS (And.intro htR (And.intro htA (And.intro hrmA (And.intro hmE hbw))))))))))))))))))))))))
    clear hC hD hS hR hA hvi hvm hvo hlkx hlky hlm hvx hvy hvmm hb4 hmC hmD hb6 htS hrmS htR htA hrmA hmE hbw
    go_upto_region 10 with fail
    obtain ⟨hC, hD, hS, hR, hA, hvi, hvm, hvo, hlkx, hlky, hlm, hvx, hvy, hvmm, hb4, hmC, hmD, hb6, htS, hrmS, htR, htA, hrmA, hmE, hbw⟩ := HK.out
    clear HK
    have hb : Below UE.heap.size UE (UE.alloc (.cells #[.int .i64 E.coin, .slice E.pa E.l.length E.c] 24)) := (Below.refl _ _).alloc (Nat.le_refl _) _
    have hE : Lies (UE.alloc (.cells #[.int .i64 E.coin, .slice E.pa E.l.length E.c] 24)) UE.heap.size #[.int .i64 E.coin, .slice E.pa E.l.length E.c] 24 := Lies.new _ _ _
    generalize UE.alloc (.cells #[.int .i64 E.coin, .slice E.pa E.l.length E.c] 24) = W10 at hb hE ⊢
    obtain ⟨bE, hbe⟩ : ∃ b, b = UE.heap.size := ⟨_, rfl⟩
    rw [← hbe] at hE ⊢
    clear hbe
    have hC := hC.below hb hC.lt
    have hD := hD.below hb hD.lt
    have hS := hS.below hb hS.lt
    have hR := hR.below hb hR.lt
    have hA := hA.below hb hA.lt
    have hvi := hvi.below hb (Nat.le_refl _)
    have hvm := hvm.below hb (Nat.le_refl _)
    have hvo := hvo.below hb (Nat.le_refl _)
    have hlkx := hlkx.below (Nat.le_refl _) hb
    have hlky := hlky.below (Nat.le_refl _) hb
    have hlm := hlm.below hb
    have hvx := hvx.below hb (Nat.le_refl _)
    have hvy := hvy.below hb (Nat.le_refl _)
    have hvmm := hvmm.below hb (Nat.le_refl _)
    have hb4 := hb4.trans (hb.mono hb4.size)
    have hmC := hmC.below hb
    have hmD := hmD.below hb (Nat.le_refl _)
    have hb6 := hb6.trans (hb.mono hb6.size)
    have htS := htS.below hb (Nat.le_refl _)
    have hrmS := hrmS.below hb
    have htR := htR.below hb (Nat.le_refl _)
    have htA := htA.below hb (Nat.le_refl _)
    have hrmA := hrmA.below hb
    have hmE := hmE.below hb
    have hbw := hbw.trans (hb.mono hbw.size)
    clear hb
    obtain ⟨e1, e2, e3⟩ := AddM.ok_of (fun _ _ => Iff.rfl) HSC.out HSE.out
    have HCE := Lib.hid (And.intro e2 e3)
    clear e1 e2 e3 HSD HSE
    obtain ⟨bo, hbo⟩ := bal_some (vs ++ [⟨0, pm, ml, cm⟩]) (us ++ [⟨fee, none, [], 0⟩])
    have hfx := few_same HSX.out.1 HF.out.1.2
    have hfy := few_same HSX.out.2.1 HF.out.2.1.2
    have hfm : FewV [(⟨0, some ⟨gM, 0, none⟩, ml, cM⟩ : Va)] := FewV.one HF.out.2.2
    have hfe : FewV [(⟨fee, none, [], 0⟩ : Va)] := FewV.one few_nil
    have hfp : FewV [(⟨0, pm, ml, cm⟩ : Va)] := FewV.one HF.out.2.2
    have hlx : usX.length + 1 ≤ 1000 := by have := HSX.out.2.2.1; have := HF.out.1.1; omega
    have hly : usY.length + 1 ≤ 1000 := by have := HSX.out.2.2.2; have := HF.out.2.1.1; omega
    have hlv : vs.length + 1 ≤ 1000 := by have := HF.out.1.1; omega
    have hlu : us.length + 1 ≤ 1000 := by have := HF.out.2.1.1; omega
    have hbal := fun U (hU : Below W10.heap.size W10 U) => (bal_few U (some ⟨gX, 0, none⟩) usX cX (some ⟨gM, 0, none⟩) ml cM (some ⟨gY, 0, none⟩) usY cY fee (hvx.below hU (Nat.le_refl _)) (hvmm.below hU (Nat.le_refl _)) (hvy.below hU (Nat.le_refl _)) HC.out.2.2.2.2.2.1 HC.out.2.2.2.2.2.2 (fun e => by cases e) (fun e => by cases e) (hfx.app hfm hlx) (hfy.app hfe hly)).mono fun e w' hh => (show e = .returned (.bool bo) ∧ Below U.heap.size U w' from ⟨bal_is hbo hh.1 (by rw [List.map_append, List.map_append, HSX.out.1]; rfl) (by rw [List.map_append, List.map_append, HSX.out.2.1]), hh.2⟩)
    have hrbal := fun U (hU : Below W10.heap.size W10 U) => (rbal_few U pi vs ci pm ml cm po us co fee (hvi.below hU (Nat.le_refl _)) (hvm.below hU (Nat.le_refl _)) (hvo.below hU (Nat.le_refl _)) HC.out.2.2.2.2.2.1 HC.out.2.2.2.2.2.2 HC.out.2.1 HC.out.2.2.2.2.1 (HF.out.1.2.app hfp hlv) (HF.out.2.1.2.app hfe hlu)).mono fun e w' hh => (show e = .returned (.bool bo) ∧ Below U.heap.size U w' from ⟨bal_is hbo hh.1 rfl rfl, hh.2⟩)
    rw [HSX.out.2.2.1, HSX.out.2.2.2] at hbal
    have K1 : Hid (∀ U, Below W10.heap.size W10 U → Calls Tryz.prog 12 #[.agg #[.int .i64 C.coin, .slice C.pa C.l.length C.c], .agg #[.int .i64 D.coin, .slice D.pa D.l.length D.c]] U fun e w' => e = .returned (.bool true) ∧ Below U.heap.size U w') := Lib.hid fun U hU => (same_m U C D (hmC.1.below hU (Nat.le_refl _)) (hmD.below hU (Nat.le_refl _))).mono fun e w' hh => ⟨by rw [hh.1, HCD.out.1, HCD.out.2, sameB_yes], hh.2⟩
    have K2 : Hid (∀ U, Below W10.heap.size W10 U → Calls Tryz.prog 28 #[.slice pS lS.length cS, .slice pR lS.length cR] U fun e w' => e = .returned (.bool true) ∧ Below U.heap.size U w') := Lib.hid fun U hU => (sameT_any U pS pR lS lS cS cR (htS.below hU (Nat.le_refl _)) (htR.below hU (Nat.le_refl _))).mono fun _ _ hh => ⟨by rw [hh.1, decide_eq_true rfl], hh.2⟩
    have K3 := Lib.hid hbal
    have K4 := Lib.hid hrbal
    clear hbal hrbal hbo hfx hfy hfm hfe hfp hlx hly hlv hlu
    have qhC0 := hC.cell 0 (v := .int .i64 C.coin) rfl
    have qhC1 := hC.cell 1 (v := .slice C.pa C.l.length C.c) rfl
    have qhD0 := hD.cell 0 (v := .int .i64 D.coin) rfl
    have qhD1 := hD.cell 1 (v := .slice D.pa D.l.length D.c) rfl
    have hcall := K1.out _ (Below.refl _ _)
    have HG := Lib.hid hcall
    clear hcall
    have HK := Lib.hid (And.intro hC (And.intro hD (And.intro hS (And.intro hR (And.intro hA (And.intro hE (And.intro hvi (And.intro hvm (And.intro hvo (And.intro hlkx (And.intro hlky (And.intro hlm (And.intro hvx (And.intro hvy (And.intro hvmm (And.intro hb4 (And.intro hmC (And.intro hmD (And.intro hb6 (And.intro htS (And.intro hrmS (And.intro htR (And.intro htA (And.intro hrmA (And.intro hmE hbw)))))))))))))))))))))))))
    clear hC hD hS hR hA hE hvi hvm hvo hlkx hlky hlm hvx hvy hvmm hb4 hmC hmD hb6 htS hrmS htR htA hrmA hmE hbw
    go_wp2_with fail
    refine HG.out.mono ?_
    rintro e X1 ⟨rfl, hb⟩
    obtain ⟨hC, hD, hS, hR, hA, hE, hvi, hvm, hvo, hlkx, hlky, hlm, hvx, hvy, hvmm, hb4, hmC, hmD, hb6, htS, hrmS, htR, htA, hrmA, hmE, hbw⟩ := HK.out
    clear HK
    clear HG qhC0 qhC1 qhD0 qhD1
    have hC := hC.below hb hC.lt
    have hD := hD.below hb hD.lt
    have hS := hS.below hb hS.lt
    have hR := hR.below hb hR.lt
    have hA := hA.below hb hA.lt
    have hE := hE.below hb hE.lt
    have hvi := hvi.below hb (Nat.le_refl _)
    have hvm := hvm.below hb (Nat.le_refl _)
    have hvo := hvo.below hb (Nat.le_refl _)
    have hlkx := hlkx.below (Nat.le_refl _) hb
    have hlky := hlky.below (Nat.le_refl _) hb
    have hlm := hlm.below hb
    have hvx := hvx.below hb (Nat.le_refl _)
    have hvy := hvy.below hb (Nat.le_refl _)
    have hvmm := hvmm.below hb (Nat.le_refl _)
    have hb4 := hb4.trans (hb.mono hb4.size)
    have hmC := hmC.below hb
    have hmD := hmD.below hb (Nat.le_refl _)
    have hb6 := hb6.trans (hb.mono hb6.size)
    have htS := htS.below hb (Nat.le_refl _)
    have hrmS := hrmS.below hb
    have htR := htR.below hb (Nat.le_refl _)
    have htA := htA.below hb (Nat.le_refl _)
    have hrmA := hrmA.below hb
    have hmE := hmE.below hb
    have hbw := hbw.trans (hb.mono hbw.size)
    have hx1 := hb
    clear hb
    clear K1
    have qhS0 := hS.cell 0 (v := .int .i64 sh) rfl
    have qhS1 := hS.cell 1 (v := .int .u64 sl) rfl
    have qhR0 := hR.cell 0 (v := .int .i64 sh) rfl
    have qhR1 := hR.cell 1 (v := .int .u64 sl) rfl
    have hcall := K2.out _ hx1
    have HG := Lib.hid hcall
    clear hcall
    have HK := Lib.hid (And.intro hC (And.intro hD (And.intro hS (And.intro hR (And.intro hA (And.intro hE (And.intro hvi (And.intro hvm (And.intro hvo (And.intro hlkx (And.intro hlky (And.intro hlm (And.intro hvx (And.intro hvy (And.intro hvmm (And.intro hb4 (And.intro hmC (And.intro hmD (And.intro hb6 (And.intro htS (And.intro hrmS (And.intro htR (And.intro htA (And.intro hrmA (And.intro hmE hbw)))))))))))))))))))))))))
    clear hC hD hS hR hA hE hvi hvm hvo hlkx hlky hlm hvx hvy hvmm hb4 hmC hmD hb6 htS hrmS htR htA hrmA hmE hbw
    go_wp2_with fail
    refine HG.out.mono ?_
    rintro e X2 ⟨rfl, hb⟩
    obtain ⟨hC, hD, hS, hR, hA, hE, hvi, hvm, hvo, hlkx, hlky, hlm, hvx, hvy, hvmm, hb4, hmC, hmD, hb6, htS, hrmS, htR, htA, hrmA, hmE, hbw⟩ := HK.out
    clear HK
    clear HG qhS0 qhS1 qhR0 qhR1
    have hC := hC.below hb hC.lt
    have hD := hD.below hb hD.lt
    have hS := hS.below hb hS.lt
    have hR := hR.below hb hR.lt
    have hA := hA.below hb hA.lt
    have hE := hE.below hb hE.lt
    have hvi := hvi.below hb (Nat.le_refl _)
    have hvm := hvm.below hb (Nat.le_refl _)
    have hvo := hvo.below hb (Nat.le_refl _)
    have hlkx := hlkx.below (Nat.le_refl _) hb
    have hlky := hlky.below (Nat.le_refl _) hb
    have hlm := hlm.below hb
    have hvx := hvx.below hb (Nat.le_refl _)
    have hvy := hvy.below hb (Nat.le_refl _)
    have hvmm := hvmm.below hb (Nat.le_refl _)
    have hb4 := hb4.trans (hb.mono hb4.size)
    have hmC := hmC.below hb
    have hmD := hmD.below hb (Nat.le_refl _)
    have hb6 := hb6.trans (hb.mono hb6.size)
    have htS := htS.below hb (Nat.le_refl _)
    have hrmS := hrmS.below hb
    have htR := htR.below hb (Nat.le_refl _)
    have htA := htA.below hb (Nat.le_refl _)
    have hrmA := hrmA.below hb
    have hmE := hmE.below hb
    have hbw := hbw.trans (hb.mono hbw.size)
    have hx2 := hx1.trans (hb.mono hx1.size)
    clear hx1
    clear hb
    clear K2
    have hcall := K3.out _ hx2
    have HG := Lib.hid hcall
    clear hcall
    have HK := Lib.hid (And.intro hC (And.intro hD (And.intro hS (And.intro hR (And.intro hA (And.intro hE (And.intro hvi (And.intro hvm (And.intro hvo (And.intro hlkx (And.intro hlky (And.intro hlm (And.intro hvx (And.intro hvy (And.intro hvmm (And.intro hb4 (And.intro hmC (And.intro hmD (And.intro hb6 (And.intro htS (And.intro hrmS (And.intro htR (And.intro htA (And.intro hrmA (And.intro hmE hbw)))))))))))))))))))))))))
    clear hC hD hS hR hA hE hvi hvm hvo hlkx hlky hlm hvx hvy hvmm hb4 hmC hmD hb6 htS hrmS htR htA hrmA hmE hbw
    go_wp2_with fail
    refine HG.out.mono ?_
    rintro e X3 ⟨rfl, hb⟩
    obtain ⟨hC, hD, hS, hR, hA, hE, hvi, hvm, hvo, hlkx, hlky, hlm, hvx, hvy, hvmm, hb4, hmC, hmD, hb6, htS, hrmS, htR, htA, hrmA, hmE, hbw⟩ := HK.out
    clear HK
    clear HG 
    have hC := hC.below hb hC.lt
    have hD := hD.below hb hD.lt
    have hS := hS.below hb hS.lt
    have hR := hR.below hb hR.lt
    have hA := hA.below hb hA.lt
    have hE := hE.below hb hE.lt
    have hvi := hvi.below hb (Nat.le_refl _)
    have hvm := hvm.below hb (Nat.le_refl _)
    have hvo := hvo.below hb (Nat.le_refl _)
    have hlkx := hlkx.below (Nat.le_refl _) hb
    have hlky := hlky.below (Nat.le_refl _) hb
    have hlm := hlm.below hb
    have hvx := hvx.below hb (Nat.le_refl _)
    have hvy := hvy.below hb (Nat.le_refl _)
    have hvmm := hvmm.below hb (Nat.le_refl _)
    have hb4 := hb4.trans (hb.mono hb4.size)
    have hmC := hmC.below hb
    have hmD := hmD.below hb (Nat.le_refl _)
    have hb6 := hb6.trans (hb.mono hb6.size)
    have htS := htS.below hb (Nat.le_refl _)
    have hrmS := hrmS.below hb
    have htR := htR.below hb (Nat.le_refl _)
    have htA := htA.below hb (Nat.le_refl _)
    have hrmA := hrmA.below hb
    have hmE := hmE.below hb
    have hbw := hbw.trans (hb.mono hbw.size)
    have hx3 := hx2.trans (hb.mono hx2.size)
    clear hx2
    clear hb
    clear K3
    have hcall := K4.out _ hx3
    have HG := Lib.hid hcall
    clear hcall
    have HK := Lib.hid (And.intro hC (And.intro hD (And.intro hS (And.intro hR (And.intro hA (And.intro hE (And.intro hvi (And.intro hvm (And.intro hvo (And.intro hlkx (And.intro hlky (And.intro hlm (And.intro hvx (And.intro hvy (And.intro hvmm (And.intro hb4 (And.intro hmC (And.intro hmD (And.intro hb6 (And.intro htS (And.intro hrmS (And.intro htR (And.intro htA (And.intro hrmA (And.intro hmE hbw)))))))))))))))))))))))))
    clear hC hD hS hR hA hE hvi hvm hvo hlkx hlky hlm hvx hvy hvmm hb4 hmC hmD hb6 htS hrmS htR htA hrmA hmE hbw
    go_wp2_with fail
    refine HG.out.mono ?_
    rintro e W11 ⟨rfl, hb⟩
    obtain ⟨hC, hD, hS, hR, hA, hE, hvi, hvm, hvo, hlkx, hlky, hlm, hvx, hvy, hvmm, hb4, hmC, hmD, hb6, htS, hrmS, htR, htA, hrmA, hmE, hbw⟩ := HK.out
    clear HK
    clear HG 
    have hC := hC.below hb hC.lt
    have hD := hD.below hb hD.lt
    have hS := hS.below hb hS.lt
    have hR := hR.below hb hR.lt
    have hA := hA.below hb hA.lt
    have hE := hE.below hb hE.lt
    have hvi := hvi.below hb (Nat.le_refl _)
    have hvm := hvm.below hb (Nat.le_refl _)
    have hvo := hvo.below hb (Nat.le_refl _)
    have hlkx := hlkx.below (Nat.le_refl _) hb
    have hlky := hlky.below (Nat.le_refl _) hb
    have hlm := hlm.below hb
    have hvx := hvx.below hb (Nat.le_refl _)
    have hvy := hvy.below hb (Nat.le_refl _)
    have hvmm := hvmm.below hb (Nat.le_refl _)
    have hb4 := hb4.trans (hb.mono hb4.size)
    have hmC := hmC.below hb
    have hmD := hmD.below hb (Nat.le_refl _)
    have hb6 := hb6.trans (hb.mono hb6.size)
    have htS := htS.below hb (Nat.le_refl _)
    have hrmS := hrmS.below hb
    have htR := htR.below hb (Nat.le_refl _)
    have htA := htA.below hb (Nat.le_refl _)
    have hrmA := hrmA.below hb
    have hmE := hmE.below hb
    have hbw := hbw.trans (hb.mono hbw.size)
    clear hx3
    clear hb
    clear K4
    have HK := Lib.hid (And.intro hC (And.intro hD (And.intro hS (And.intro hR (And.intro hA (And.intro hE (And.intro hvi (And.intro hvm (And.intro hvo (And.intro hlkx (And.intro hlky (And.intro hlm (And.intro hvx (And.intro hvy (And.intro hvmm (And.intro hb4 (And.intro hmC (And.intro hmD (And.intro hb6 (And.intro htS (And.intro hrmS (And.intro htR (And.intro htA (And.intro hrmA (And.intro hmE hbw)))))))))))))))))))))))))
    clear hC hD hS hR hA hE hvi hvm hvo hlkx hlky hlm hvx hvy hvmm hb4 hmC hmD hb6 htS hrmS htR htA hrmA hmE hbw
    go_upto_region 12 with fail
    obtain ⟨hC, hD, hS, hR, hA, hE, hvi, hvm, hvo, hlkx, hlky, hlm, hvx, hvy, hvmm, hb4, hmC, hmD, hb6, htS, hrmS, htR, htA, hrmA, hmE, hbw⟩ := HK.out
    clear HK
    have hcall := keptVs_any W11 vs usX gX cX pi ci hlkx hvi (by have := HF.out.1.1; omega) (fun v hv => Nat.le_trans (HF.out.1.2.2 v hv).1 (by decide))
    have HG := Lib.hid hcall
    clear hcall
    have HK := Lib.hid (And.intro hC (And.intro hD (And.intro hS (And.intro hR (And.intro hA (And.intro hE (And.intro hvi (And.intro hvm (And.intro hvo (And.intro hlkx (And.intro hlky (And.intro hlm (And.intro hvx (And.intro hvy (And.intro hvmm (And.intro hb4 (And.intro hmC (And.intro hmD (And.intro hb6 (And.intro htS (And.intro hrmS (And.intro htR (And.intro htA (And.intro hrmA (And.intro hmE hbw)))))))))))))))))))))))))
    clear hC hD hS hR hA hE hvi hvm hvo hlkx hlky hlm hvx hvy hvmm hb4 hmC hmD hb6 htS hrmS htR htA hrmA hmE hbw
    go_wp2_with fail
    refine HG.out.mono ?_
    rintro e W12 ⟨rfl, hb⟩
    obtain ⟨hC, hD, hS, hR, hA, hE, hvi, hvm, hvo, hlkx, hlky, hlm, hvx, hvy, hvmm, hb4, hmC, hmD, hb6, htS, hrmS, htR, htA, hrmA, hmE, hbw⟩ := HK.out
    clear HK
    clear HG 
    have hC := hC.below hb hC.lt
    have hD := hD.below hb hD.lt
    have hS := hS.below hb hS.lt
    have hR := hR.below hb hR.lt
    have hA := hA.below hb hA.lt
    have hE := hE.below hb hE.lt
    have hvi := hvi.below hb (Nat.le_refl _)
    have hvm := hvm.below hb (Nat.le_refl _)
    have hvo := hvo.below hb (Nat.le_refl _)
    have hlkx := hlkx.below (Nat.le_refl _) hb
    have hlky := hlky.below (Nat.le_refl _) hb
    have hlm := hlm.below hb
    have hvx := hvx.below hb (Nat.le_refl _)
    have hvy := hvy.below hb (Nat.le_refl _)
    have hvmm := hvmm.below hb (Nat.le_refl _)
    have hb4 := hb4.trans (hb.mono hb4.size)
    have hmC := hmC.below hb
    have hmD := hmD.below hb (Nat.le_refl _)
    have hb6 := hb6.trans (hb.mono hb6.size)
    have htS := htS.below hb (Nat.le_refl _)
    have hrmS := hrmS.below hb
    have htR := htR.below hb (Nat.le_refl _)
    have htA := htA.below hb (Nat.le_refl _)
    have hrmA := hrmA.below hb
    have hmE := hmE.below hb
    have hbw := hbw.trans (hb.mono hbw.size)
    clear hb
    have hcall := keptVs_any W12 us usY gY cY po co hlky hvo (by have := HF.out.2.1.1; omega) (fun v hv => Nat.le_trans (HF.out.2.1.2.2 v hv).1 (by decide))
    have HG := Lib.hid hcall
    clear hcall
    have HK := Lib.hid (And.intro hC (And.intro hD (And.intro hS (And.intro hR (And.intro hA (And.intro hE (And.intro hvi (And.intro hvm (And.intro hvo (And.intro hlkx (And.intro hlky (And.intro hlm (And.intro hvx (And.intro hvy (And.intro hvmm (And.intro hb4 (And.intro hmC (And.intro hmD (And.intro hb6 (And.intro htS (And.intro hrmS (And.intro htR (And.intro htA (And.intro hrmA (And.intro hmE hbw)))))))))))))))))))))))))
    clear hC hD hS hR hA hE hvi hvm hvo hlkx hlky hlm hvx hvy hvmm hb4 hmC hmD hb6 htS hrmS htR htA hrmA hmE hbw
    go_wp2_with fail
    refine HG.out.mono ?_
    rintro e W13 ⟨rfl, hb⟩
    obtain ⟨hC, hD, hS, hR, hA, hE, hvi, hvm, hvo, hlkx, hlky, hlm, hvx, hvy, hvmm, hb4, hmC, hmD, hb6, htS, hrmS, htR, htA, hrmA, hmE, hbw⟩ := HK.out
    clear HK
    clear HG 
    have hC := hC.below hb hC.lt
    have hD := hD.below hb hD.lt
    have hS := hS.below hb hS.lt
    have hR := hR.below hb hR.lt
    have hA := hA.below hb hA.lt
    have hE := hE.below hb hE.lt
    have hvi := hvi.below hb (Nat.le_refl _)
    have hvm := hvm.below hb (Nat.le_refl _)
    have hvo := hvo.below hb (Nat.le_refl _)
    have hlkx := hlkx.below (Nat.le_refl _) hb
    have hlky := hlky.below (Nat.le_refl _) hb
    have hlm := hlm.below hb
    have hvx := hvx.below hb (Nat.le_refl _)
    have hvy := hvy.below hb (Nat.le_refl _)
    have hvmm := hvmm.below hb (Nat.le_refl _)
    have hb4 := hb4.trans (hb.mono hb4.size)
    have hmC := hmC.below hb
    have hmD := hmD.below hb (Nat.le_refl _)
    have hb6 := hb6.trans (hb.mono hb6.size)
    have htS := htS.below hb (Nat.le_refl _)
    have hrmS := hrmS.below hb
    have htR := htR.below hb (Nat.le_refl _)
    have htA := htA.below hb (Nat.le_refl _)
    have hrmA := hrmA.below hb
    have hmE := hmE.below hb
    have hbw := hbw.trans (hb.mono hbw.size)
    clear hb
    have hcall := keptA_any W13 ml gM cM pm cm hlm hvm (Nat.le_trans HF.out.2.2.1 (by decide))
    have HG := Lib.hid hcall
    clear hcall
    have HK := Lib.hid (And.intro hC (And.intro hD (And.intro hS (And.intro hR (And.intro hA (And.intro hE (And.intro hvi (And.intro hvm (And.intro hvo (And.intro hlkx (And.intro hlky (And.intro hlm (And.intro hvx (And.intro hvy (And.intro hvmm (And.intro hb4 (And.intro hmC (And.intro hmD (And.intro hb6 (And.intro htS (And.intro hrmS (And.intro htR (And.intro htA (And.intro hrmA (And.intro hmE hbw)))))))))))))))))))))))))
    clear hC hD hS hR hA hE hvi hvm hvo hlkx hlky hlm hvx hvy hvmm hb4 hmC hmD hb6 htS hrmS htR htA hrmA hmE hbw
    go_wp2_with fail
    refine HG.out.mono ?_
    rintro e W14 ⟨rfl, hb⟩
    obtain ⟨hC, hD, hS, hR, hA, hE, hvi, hvm, hvo, hlkx, hlky, hlm, hvx, hvy, hvmm, hb4, hmC, hmD, hb6, htS, hrmS, htR, htA, hrmA, hmE, hbw⟩ := HK.out
    clear HK
    clear HG 
    have hC := hC.below hb hC.lt
    have hD := hD.below hb hD.lt
    have hS := hS.below hb hS.lt
    have hR := hR.below hb hR.lt
    have hA := hA.below hb hA.lt
    have hE := hE.below hb hE.lt
    have hvi := hvi.below hb (Nat.le_refl _)
    have hvm := hvm.below hb (Nat.le_refl _)
    have hvo := hvo.below hb (Nat.le_refl _)
    have hlkx := hlkx.below (Nat.le_refl _) hb
    have hlky := hlky.below (Nat.le_refl _) hb
    have hlm := hlm.below hb
    have hvx := hvx.below hb (Nat.le_refl _)
    have hvy := hvy.below hb (Nat.le_refl _)
    have hvmm := hvmm.below hb (Nat.le_refl _)
    have hb4 := hb4.trans (hb.mono hb4.size)
    have hmC := hmC.below hb
    have hmD := hmD.below hb (Nat.le_refl _)
    have hb6 := hb6.trans (hb.mono hb6.size)
    have htS := htS.below hb (Nat.le_refl _)
    have hrmS := hrmS.below hb
    have htR := htR.below hb (Nat.le_refl _)
    have htA := htA.below hb (Nat.le_refl _)
    have hrmA := hrmA.below hb
    have hmE := hmE.below hb
    have hbw := hbw.trans (hb.mono hbw.size)
    clear hb
    have hbG : Below W14.heap.size W14 (W14.alloc (.cells #[.slice pS lS.length cS, .slice pA lS.length cA] 49)) := (Below.refl _ _).alloc (Nat.le_refl _) _
    have hLG : Lies (W14.alloc (.cells #[.slice pS lS.length cS, .slice pA lS.length cA] 49)) W14.heap.size #[.slice pS lS.length cS, .slice pA lS.length cA] 49 := Lies.new _ _ _
    have hlen : lS.length ≤ 100000 := by
      have h1 := tot_len (L := ctsL vs) HTS.out (fun _ => rfl)
      have h2 := cts_len vs HF.out.1.2.2
      have h3 := HF.out.1.1
      omega
    have hrows : RowsT (W14.alloc (.cells #[.slice pS lS.length cS, .slice pA lS.length cA] 49)) W6.heap.size [⟨pS, lS, cS⟩, ⟨pA, lS, cA⟩] := duoT (n := W8.heap.size) (hrmS.below hbG) ((hrmA.below hbG).mono HW68.out.1) hlen (fun a e => HW68.out.2 a e) (fun a e => (room_lt hrmA a e).1)
    have hap := apartT_any _ W14.heap.size 2 W6.heap.size [⟨pS, lS, cS⟩, ⟨pA, lS, cA⟩] hLG.lt (fun k v hv => by
      have hk : k = 0 ∨ k = 1 := by have := (List.getElem?_eq_some_iff.1 hv).1; simp only [List.length_cons, List.length_nil] at this; omega
      rcases hk with rfl | rfl
      · obtain rfl : (⟨pS, lS, cS⟩ : Tr) = v := by simpa using hv
        exact hLG.cell 0 rfl
      · obtain rfl : (⟨pA, lS, cA⟩ : Tr) = v := by simpa using hv
        exact hLG.cell 1 rfl) hrows (show 0 < 2 by decide) (show 2 ≤ 1000 by decide) (Nat.le_trans hb6.size hbG.size)
    have hE1 := hE.below hbG hE.lt
    have hmE1 := hmE.below hbG
    have HG := Lib.hid (And.intro hap (And.intro hbG (And.intro hb6 (And.intro hrows (And.intro hE1 (And.intro hmE1 hb4))))))
    clear hap hbG hLG hlen hrows hE1 hmE1
    clear hC hD hS hR hA hE hvi hvm hvo hlkx hlky hlm hvx hvy hvmm hb4 hmC hmD hb6 htS hrmS htR htA hrmA hmE hbw
    go_wp2_with fail
    refine HG.out.1.mono ?_
    rintro e W15 ⟨rfl, hbT, hrest⟩
    have hE : Lies W15 bE #[.int .i64 E.coin, .slice E.pa E.l.length E.c] 24 := rest_keep HG.out.2.2.2.1 hrest HG.out.2.2.2.2.1 (by decide)
    have hmE : Mine W9.heap.size W15 E.pa E.l E.c := HG.out.2.2.2.2.2.1.rest fun g cs hl => rest_keep HG.out.2.2.2.1 hrest hl (by decide)
    have hb := HG.out.2.2.1.trans ((HG.out.2.1.mono HG.out.2.2.1.size).trans hbT)
    have hb4' := HG.out.2.2.2.2.2.2.trans (((HG.out.2.1.mono HG.out.2.2.1.size).trans hbT).mono HW46.out)
    clear HG hrest hbT
    obtain ⟨hC, hD, hvi, hvm, hvo, hlkx, hlky, hlm, hvx, hvy, hvmm, hb4, hmC, hmD, hbw⟩ := HK6.out
    clear hb4
    have hb4 := hb4'
    clear hb4'
    have hC := hC.below hb hC.lt
    have hD := hD.below hb hD.lt
    have hvi := hvi.below hb (Nat.le_refl _)
    have hvm := hvm.below hb (Nat.le_refl _)
    have hvo := hvo.below hb (Nat.le_refl _)
    have hlkx := hlkx.below (Nat.le_refl _) hb
    have hlky := hlky.below (Nat.le_refl _) hb
    have hlm := hlm.below hb
    have hvx := hvx.below hb (Nat.le_refl _)
    have hvy := hvy.below hb (Nat.le_refl _)
    have hvmm := hvmm.below hb (Nat.le_refl _)
    have hmC := hmC.below hb
    have hmD := hmD.below hb (Nat.le_refl _)
    have hbw := hbw.trans (hb.mono hbw.size)
    clear hb HK6
    have qhC0 := hC.cell 0 (v := .int .i64 C.coin) rfl
    have qhC1 := hC.cell 1 (v := .slice C.pa C.l.length C.c) rfl
    have qhE0 := hE.cell 0 (v := .int .i64 E.coin) rfl
    have qhE1 := hE.cell 1 (v := .slice E.pa E.l.length E.c) rfl
    have hbG : Below W15.heap.size W15 ((W15.alloc (.cells #[.int .i64 C.coin, .slice C.pa C.l.length C.c, .int .i64 E.coin, .slice E.pa E.l.length E.c] 24)).alloc (.cells #[.slice (some ⟨W15.heap.size, 0, none⟩) 2 2] 28)) := ((Below.refl _ _).alloc (Nat.le_refl _) _).alloc (by simp) _
    have hLG : Lies ((W15.alloc (.cells #[.int .i64 C.coin, .slice C.pa C.l.length C.c, .int .i64 E.coin, .slice E.pa E.l.length E.c] 24)).alloc (.cells #[.slice (some ⟨W15.heap.size, 0, none⟩) 2 2] 28)) W15.heap.size #[.int .i64 C.coin, .slice C.pa C.l.length C.c, .int .i64 E.coin, .slice E.pa E.l.length E.c] 24 := (Lies.new _ _ _).alloc _
    have hLH : Lies ((W15.alloc (.cells #[.int .i64 C.coin, .slice C.pa C.l.length C.c, .int .i64 E.coin, .slice E.pa E.l.length E.c] 24)).alloc (.cells #[.slice (some ⟨W15.heap.size, 0, none⟩) 2 2] 28)) (W15.heap.size + 1) #[.slice (some ⟨W15.heap.size, 0, none⟩) 2 2] 28 := lies_new2 _ _ _ _ (by simp)
    have hro := duo_rowO (B := W4.heap.size) (n := W9.heap.size) hLG hbG hmC (hmE.mono HW49.out) hb4.size (Nat.le_trans (addM_few HSC.out) (by decide)) (by rw [HCE.out.2]; exact Nat.le_trans (addM_few HSC.out) (by decide)) (fun p e => Nat.lt_of_lt_of_le (HLC.out p e).2 HW69.out) (fun p e => (own_lt hmE p e).1)
    have hap := apartV_any _ (W15.heap.size + 1) 1 W4.heap.size W15.heap.size 2 [C, E] hLH.lt (hLH.cell 0 rfl) hro (show 0 < 2 by decide) (show 2 ≤ 1000 by decide) (Nat.le_trans hb4.size hbG.size)
    have HG := Lib.hid (And.intro hap (And.intro hbG (And.intro hb4 hbw)))
    clear hap hbG hLG hLH hro
    clear hC hD hE hvi hvm hvo hlkx hlky hlm hvx hvy hvmm hmC hmD hb4 hmE hbw
    go_wp2_with fail
    refine HG.out.1.mono ?_
    rintro e W16 ⟨rfl, hb⟩
    have hb := HG.out.2.2.1.trans ((HG.out.2.1.mono HG.out.2.2.1.size).trans hb)
    clear HG qhC0 qhC1 qhE0 qhE1
    obtain ⟨hvi, hvm, hvo, hlkx, hlky, hlm, hvx, hvy, hvmm, hbw⟩ := HK4.out
    have hvi := hvi.below hb (Nat.le_refl _)
    have hvm := hvm.below hb (Nat.le_refl _)
    have hvo := hvo.below hb (Nat.le_refl _)
    have hlkx := hlkx.below (Nat.le_refl _) hb
    have hlky := hlky.below (Nat.le_refl _) hb
    have hlm := hlm.below hb
    have hvx := hvx.below hb (Nat.le_refl _)
    have hvy := hvy.below hb (Nat.le_refl _)
    have hvmm := hvmm.below hb (Nat.le_refl _)
    have hbw := hbw.trans (hb.mono hbw.size)
    clear hb HK4
    have hcall := keptVs_any W16 vs usX gX cX pi ci hlkx hvi (by have := HF.out.1.1; omega) (fun v hv => Nat.le_trans (HF.out.1.2.2 v hv).1 (by decide))
    have HG := Lib.hid hcall
    clear hcall
    have HK := Lib.hid (And.intro hvi (And.intro hvm (And.intro hvo (And.intro hlkx (And.intro hlky (And.intro hlm (And.intro hvx (And.intro hvy (And.intro hvmm hbw)))))))))
    clear hvi hvm hvo hlkx hlky hlm hvx hvy hvmm hbw
    go_wp2_with fail
    refine HG.out.mono ?_
    rintro e W17 ⟨rfl, hb⟩
    obtain ⟨hvi, hvm, hvo, hlkx, hlky, hlm, hvx, hvy, hvmm, hbw⟩ := HK.out
    clear HK
    clear HG 
    have hvi := hvi.below hb (Nat.le_refl _)
    have hvm := hvm.below hb (Nat.le_refl _)
    have hvo := hvo.below hb (Nat.le_refl _)
    have hlkx := hlkx.below (Nat.le_refl _) hb
    have hlky := hlky.below (Nat.le_refl _) hb
    have hlm := hlm.below hb
    have hvx := hvx.below hb (Nat.le_refl _)
    have hvy := hvy.below hb (Nat.le_refl _)
    have hvmm := hvmm.below hb (Nat.le_refl _)
    have hbw := hbw.trans (hb.mono hbw.size)
    clear hb
    have HE := Lib.hid hbw
    clear hvi hvm hvo hlkx hlky hlm hvx hvy hvmm hbw
    go_wp2_with (go_at_call 8; refine (awake_any _).mono ?_; rintro e W3 ⟨rfl, hb3⟩)
    go_ret
    exact ⟨rfl, HE.out.trans (hb3.mono HE.out.size)⟩
end Go.Proofs.YtjngghihciimjaaGreat
