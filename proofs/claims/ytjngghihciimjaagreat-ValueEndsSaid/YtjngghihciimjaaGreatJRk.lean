/-
  The document's own Sub.
-/
import Derived.Test.YtjngghihciimjaaGreatJRj
import Derived.Deep.Cut
namespace Go.Proofs.YtjngghihciimjaaGreat
set_option maxRecDepth 100000
open Go.RowKit Go.Sort Go.Maps
section
variable {P : Program} {ops : Array Oper} {Q : Exit → Act → World → Prop} {md : Region.Mode} {S : World → Prop}
theorem held_both {i j : Nat} {fuel : Nat} {listed : Array Bool} {a : Act} {w : World} (hr : Region.ready md ops listed = [i, j]) (l1 : Array Bool) (h1 : listed.setIfInBounds i true = l1) (l2 : Array Bool) (h2 : listed.setIfInBounds j true = l2)
  (k1 : wpOp P ops Q i (fun a' w' => S w' ∧ wpAnyH P md ops Q S fuel l1 a' w') a w) (k2 : wpOp P ops Q j (fun a' w' => S w' ∧ wpAnyH P md ops Q S fuel l2 a' w') a w) : wpAnyH P md ops Q S (fuel + 1) listed a w := by
 subst h1 h2
 refine ⟨fun e => (by rw [hr] at e; cases e), fun n hn => ?_⟩
 rw [hr] at hn
 rcases List.mem_cons.1 hn with rfl | hn
 ·
  exact k1
 ·
  obtain rfl := List.mem_singleton.1 hn
  exact k2
end
structure SIn (W : World) (w : World) (a b : Va) : Prop where
 below : Below w.heap.size w W
 la : Lies W w.heap.size #[.int .i64 a.coin, .slice a.pa a.l.length a.c] 24
 lb : Lies W (w.heap.size + 1) #[.int .i64 b.coin, .slice b.pa b.l.length b.c] 24
 res : Lies W (w.heap.size + 1 + 1) #[.int .i64 0, .slice none 0 0] 24
 va : VaOk W a
 vb : VaOk W b
theorem SIn.step {W U w : World} {a b : Va} (h : SIn W w a b) (hb : Below W.heap.size W U) : SIn U w a b := ⟨h.below.trans (hb.mono h.below.size), h.la.below hb h.la.lt, h.lb.below hb h.lb.lt, h.res.below hb h.res.lt, h.va.below hb (Nat.le_refl _), h.vb.below hb (Nat.le_refl _)⟩
theorem SIn.start (w : World) (a b : Va) (ha : VaOk w a) (hb : VaOk w b) : SIn (((w.alloc (.cells #[.int .i64 a.coin, .slice a.pa a.l.length a.c] 24)).alloc (.cells #[.int .i64 b.coin, .slice b.pa b.l.length b.c] 24)).alloc (.cells #[.int .i64 0, .slice none 0 0] 24)) w a b := by
 have h0 : Below w.heap.size w (((w.alloc (.cells #[.int .i64 a.coin, .slice a.pa a.l.length a.c] 24)).alloc (.cells #[.int .i64 b.coin, .slice b.pa b.l.length b.c] 24)).alloc (.cells #[.int .i64 0, .slice none 0 0] 24)) := (((Below.refl _ _).alloc (Nat.le_refl _) _).alloc (by simp) _).alloc (by simp; omega) _
 refine ⟨h0, ((Lies.new _ _ _).alloc _).alloc _, ?_, ?_, ha.below h0 (Nat.le_refl _), hb.below h0 (Nat.le_refl _)⟩
 ·
  have := (Lies.new (w.alloc (.cells #[.int .i64 a.coin, .slice a.pa a.l.length a.c] 24)) #[.int .i64 b.coin, .slice b.pa b.l.length b.c] 24).alloc (.cells #[.int .i64 0, .slice none 0 0] 24)
  simpa using this
 ·
  have := Lies.new ((w.alloc (.cells #[.int .i64 a.coin, .slice a.pa a.l.length a.c] 24)).alloc (.cells #[.int .i64 b.coin, .slice b.pa b.l.length b.c] 24)) #[.int .i64 0, .slice none 0 0] 24
  simpa using this
def SubSums (W wx : World) (a b : Va) (p s : Value) : Prop := ∃ g pt tl ct, ∃ x : BitVec 128, x = coinS [a, turnV b] ∧ p = .pointer (some ⟨g, 0, none⟩) ∧ s = .slice pt tl.length ct ∧ Lies wx g #[.int .i64 (hiS x), .int .u64 (loN x)] 48 ∧ RowT wx pt tl ∧ IsTot (sumAt (ctsL [a, turnV b])) (ctT tl) ∧ Below W.heap.size W wx
theorem sub_call (w : World) (g : Nat) (a b : Va) (p : Option Addr) (c : Nat) (hl : Lies w g #[.int .i64 a.coin, .slice a.pa a.l.length a.c, .int .i64 (-b.coin), .slice p (turnL b.l).length c] 24) (ha : VaOk w a) (hb : VaOk w b) (hp : Row w p (turnL b.l)) (ra : rightV a = true) (rb : rightV b = true) :
  Calls Tryz.prog 27 #[.slice (some ⟨g, 0, none⟩) 2 2] w fun e w' => ∃ v, e = .returned v ∧ ((∃ q l c', ∃ x : BitVec 128, x = coinS [a, turnV b] ∧ v = .tuple #[.agg #[.int .i64 (hiS x), .int .u64 (loN x)], .slice q l.length c'] ∧ RowT w' q l ∧ IsTot (sumAt (ctsL [a, turnV b])) (ctT l)) ∧ Below w.heap.size w w') := by
 have r1 := ((right_iff b.coin b.l).1 rb).1
 have hrow : RowV w (some ⟨g, 0, none⟩) [a, ⟨-b.coin, p, turnL b.l, c⟩] := rowV_of hl rfl (fun v hv => by
  rcases List.mem_cons.1 hv with rfl | hv
  ·
   exact ha
  ·
   rw [List.mem_singleton] at hv
   rw [hv]
   have := hb.2.1
   exact ⟨show (-9223372036854775808 : Int) ≤ -b.coin by omega, show -b.coin < (9223372036854775808 : Int) by omega, hp⟩) (show 2 ≤ maxLen by decide)
 have e1 : ctsL [a, (⟨-b.coin, p, turnL b.l, c⟩ : Va)] = ctsL [a, turnV b] := rfl
 have hn := turn_names ha hb ra rb
 have hlen : (ctsL [a, turnV b]).length ≤ 1000000 := by
  have e : ctsL [a, turnV b] = ctsOf a ++ ctsOf (turnV b) := by simp [ctsL]
  have l1 : (ctsOf a).length = a.l.length := by simp [ctsOf]
  have l2 : (ctsOf (turnV b)).length = b.l.length := by simp [ctsOf, turnV, turnL]
  have := ((right_iff a.coin a.l).1 ra).2.1
  have := ((right_iff b.coin b.l).1 rb).2.1
  rw [e, List.length_append]
  omega
 refine (rsums_any w (some ⟨g, 0, none⟩) [a, ⟨-b.coin, p, turnL b.l, c⟩] 2 hrow (by rw [e1]; exact hlen) (by rw [e1]; exact fun q hq => ⟨(hn q hq).1, Nat.le_trans (hn q hq).2 (by decide)⟩)).mono fun e w' hh => ?_
 obtain ⟨⟨q, l, c', he, h2, h3⟩, h4⟩ := hh
 exact ⟨_, he, ⟨q, l, c', _, rfl, rfl, h2, h3⟩, h4⟩
theorem ret_less {f : Nat} {args : Array Value} {w : World} {v : Va} (h : Calls Tryz.prog f args w fun e w' => LessRes v e w' ∧ Below w.heap.size w w') : Calls Tryz.prog f args w fun e w' => ∃ u, e = .returned u ∧ ((∃ p c, u = .agg #[.int .i64 (-v.coin), .slice p (turnL v.l).length c] ∧ Row w' p (turnL v.l)) ∧ Below w.heap.size w w') :=
 h.mono fun _ _ hh => by
  obtain ⟨⟨p, c, h1, h2⟩, h3⟩ := hh
  exact ⟨_, h1, ⟨p, c, rfl, h2⟩, h3⟩
attribute [-go_sem] Instr.build
set_option maxHeartbeats 16000000 in
theorem rsub_any (w : World) (a b : Va) (ha : VaOk w a) (hb : VaOk w b) :
    Calls Tryz.prog 11 #[.agg #[.int .i64 a.coin, .slice a.pa a.l.length a.c], .agg #[.int .i64 b.coin, .slice b.pa b.l.length b.c]] w fun e w' => SubRes a b e w' ∧ Below w.heap.size w w' := by
  have hzb : ∀ W, (Instr.build 24 #[]).run Tryz.prog W = .ok (.agg #[.int .i64 0, .slice none 0 0]) W := fun W => run_build W 24 _ _ (by kernel_rfl)
  have hst := SIn.start w a b ha hb
  have HST := Lib.hid hst
  clear hst ha hb
  go_enter Tryz.func11, Tryz.ntmps11
  go_upto_region 1 with fail
  have hst := HST.out
  generalize ((w.alloc (.cells #[.int .i64 a.coin, .slice a.pa a.l.length a.c] 24)).alloc (.cells #[.int .i64 b.coin, .slice b.pa b.l.length b.c] 24)).alloc (.cells #[.int .i64 0, .slice none 0 0] 24) = W0 at hst ⊢
  clear HST
  have c0 := hst.la.cell 0 (v := .int .i64 a.coin) rfl
  have c1 := hst.la.cell 1 (v := .slice a.pa a.l.length a.c) rfl
  have hra := rright_any W0 a.coin a.pa a.l a.c hst.va.2.2
  obtain ⟨ra, hfa⟩ : ∃ f, f = rightB a.coin a.l := ⟨_, rfl⟩
  obtain ⟨rb, hfb⟩ : ∃ f, f = rightB b.coin b.l := ⟨_, rfl⟩
  rw [← hfa] at hra
  have H0 := Lib.hid (And.intro hst (And.intro hra (And.intro hfa hfb)))
  clear hst hra hfa hfb
  go_wp2_with fail
  refine H0.out.2.1.mono ?_
  rintro e W1 ⟨rfl, hb1⟩
  have hst := H0.out.1.step hb1
  have H1 := Lib.hid hst
  clear hb1 hst c0 c1
  cases ra with
  | false =>
    have hno : SubN a b := fun coin l hz => by
      have h1 := hz.1.1
      unfold rightV at h1
      rw [← H0.out.2.2.1] at h1
      cases h1
    have HN := Lib.hid hno
    clear hno
    go_wp2_with (refine wpList_store_row rfl 24 _ _ rfl (w.heap.size + 1 + 1) #[.int .i64 0, .slice none 0 0] rfl rfl 24 #[.int .i64 0, .slice none 0 0] H1.out.res info_value rfl (by simp [Value.oneCell']) ?_)
    refine bodyPost_ret (v := .tuple #[.agg #[.int .i64 0, .slice none 0 0], .bool false]) (results_row_tmp (p := 4) (u := 5) (ty := 24) (by kernel_rfl) _ _ (w.heap.size + 1 + 1) 24 #[.int .i64 0, .slice none 0 0] (0, 0) _ rfl (H1.out.res.setRow _) Tryz.underlying24 rfl info_value) rfl ⟨⟨false, 0, [], none, 0, rfl, row_nil _, .inr ⟨rfl, rfl, rfl, HN.out⟩⟩, below_setRow H1.out.below _ _ (by omega)⟩
  | true =>
    have hst := H1.out
    have c0 := hst.lb.cell 0 (v := .int .i64 b.coin) rfl
    have c1 := hst.lb.cell 1 (v := .slice b.pa b.l.length b.c) rfl
    have hrb := rright_any W1 b.coin b.pa b.l b.c hst.vb.2.2
    rw [← H0.out.2.2.2] at hrb
    have HRB := Lib.hid hrb
    clear hst hrb
    go_wp2_with fail
    refine HRB.out.mono ?_
    rintro e W2 ⟨rfl, hb2⟩
    have hst := H1.out.step hb2
    have H2 := Lib.hid hst
    clear hb2 hst c0 c1 HRB
    cases rb with
    | false =>
      have hno : SubN a b := fun coin l hz => by
        have h1 := hz.1.2
        unfold rightV at h1
        rw [← H0.out.2.2.2] at h1
        cases h1
      have HN := Lib.hid hno
      clear hno
      go_wp2_with (refine wpList_store_row rfl 24 _ _ rfl (w.heap.size + 1 + 1) #[.int .i64 0, .slice none 0 0] rfl rfl 24 #[.int .i64 0, .slice none 0 0] H2.out.res info_value rfl (by simp [Value.oneCell']) ?_)
      refine bodyPost_ret (v := .tuple #[.agg #[.int .i64 0, .slice none 0 0], .bool false]) (results_row_tmp (p := 4) (u := 5) (ty := 24) (by kernel_rfl) _ _ (w.heap.size + 1 + 1) 24 #[.int .i64 0, .slice none 0 0] (0, 0) _ rfl (H2.out.res.setRow _) Tryz.underlying24 rfl info_value) rfl ⟨⟨false, 0, [], none, 0, rfl, row_nil _, .inr ⟨rfl, rfl, rfl, HN.out⟩⟩, below_setRow H2.out.below _ _ (by omega)⟩
    | true =>
      have hRR : rightV a = true ∧ rightV b = true := ⟨H0.out.2.2.1.symm, H0.out.2.2.2.symm⟩
      have HRR := Lib.hid hRR
      clear hRR
      go_upto_region 3 with fail
      go_cut [6, 7] from 17 (fun p s wx => SubSums W2 wx a b p s)
      case first =>
        have HS : Hid (∀ U, Below W2.heap.size W2 U → U.rangeAt w.heap.size 0 (#[.int .i64 a.coin, .slice a.pa a.l.length a.c] : Array Value).toList ∧ U.rangeAt (w.heap.size + 1) 0 (#[.int .i64 b.coin, .slice b.pa b.l.length b.c] : Array Value).toList) := Lib.hid fun U hU => ⟨range_lies (H2.out.la.below hU H2.out.la.lt), range_lies (H2.out.lb.below hU H2.out.lb.lt)⟩
        refine wp_region_noPanic (wp_region_held (S := fun U => U.rangeAt w.heap.size 0 (#[.int .i64 a.coin, .slice a.pa a.l.length a.c] : Array Value).toList ∧ U.rangeAt (w.heap.size + 1) 0 (#[.int .i64 b.coin, .slice b.pa b.l.length b.c] : Array Value).toList) (by kernel_rfl) ?_)
        change wpAnyH _ _ _ _ _ 11 _ _ (World.drew W2)
        have hcd : Below W2.heap.size W2 W2.drew := (Below.refl _ _).drew
        generalize World.drew W2 = wd at hcd ⊢
        have hcur := HS.out _ hcd
        refine tk 0 (.agg #[.int .i64 a.coin, .slice a.pa a.l.length a.c]) 18 rfl rfl hcur ?_ (by intro w' hS'; exact exec_loadM 24 _ rfl _ _ rfl #[.int .i64 a.coin, .slice a.pa a.l.length a.c] hS'.1 Tryz.underlying24 rfl info_value)
        refine tk 1 (.agg #[.int .i64 b.coin, .slice b.pa b.l.length b.c]) 19 rfl rfl hcur ?_ (by intro w' hS'; exact exec_loadM 24 _ rfl _ _ rfl #[.int .i64 b.coin, .slice b.pa b.l.length b.c] hS'.2 Tryz.underlying24 rfl info_value)
        refine held_both (i := 2) (j := 8) (by kernel_rfl) _ rfl _ rfl ?_ ?_
        · refine wpOp_callG rfl (by rfl) 20 rfl 54 #[.agg #[.int .i64 b.coin, .slice b.pa b.l.length b.c]] (by unfold execOp; simp [go_sem]) _ (ret_less (rless_any wd b (H2.out.vb.below hcd (Nat.le_refl _)) HRR.out.2)) ?_
          rintro x2 w1 ⟨⟨pl, cl, rfl, hrl1⟩, hb1⟩
          have hc1 := hcd.trans (hb1.mono hcd.size)
          have hcur := HS.out _ hc1
          refine ⟨hcur, ?_⟩
          simp only [Act.put, List.setIfInBounds_toArray, List.set_cons_zero, List.set_cons_succ]
          refine held_both (i := 3) (j := 8) (by kernel_rfl) _ rfl _ rfl ?_ ?_
          · refine wpOp_valG (v := .slice (some ⟨w1.heap.size, 0, none⟩) 2 2) (w' := w1.alloc (.cells #[.int .i64 a.coin, .slice a.pa a.l.length a.c, .int .i64 (-b.coin), .slice pl (turnL b.l).length cl] 24)) rfl (by rfl) 21 rfl (by unfold execOp; simp [go_sem]) ?_
            have hb2 : Below w1.heap.size w1 (w1.alloc (.cells #[.int .i64 a.coin, .slice a.pa a.l.length a.c, .int .i64 (-b.coin), .slice pl (turnL b.l).length cl] 24)) := (Below.refl _ _).alloc (Nat.le_refl _) _
            have hl2 : Lies (w1.alloc (.cells #[.int .i64 a.coin, .slice a.pa a.l.length a.c, .int .i64 (-b.coin), .slice pl (turnL b.l).length cl] 24)) w1.heap.size #[.int .i64 a.coin, .slice a.pa a.l.length a.c, .int .i64 (-b.coin), .slice pl (turnL b.l).length cl] 24 := Lies.new _ _ _
            generalize w1.alloc (.cells #[.int .i64 a.coin, .slice a.pa a.l.length a.c, .int .i64 (-b.coin), .slice pl (turnL b.l).length cl] 24) = w2 at hb2 hl2 ⊢
            obtain ⟨g2, hg2⟩ : ∃ g, g = w1.heap.size := ⟨_, rfl⟩
            rw [← hg2] at hl2 ⊢
            have hr2 := hrl1.below hb2 (Nat.le_refl _)
            have hc2 := hc1.trans (hb2.mono hc1.size)
            have hcur := HS.out _ hc2
            refine ⟨hcur, ?_⟩
            simp only [Act.put, List.setIfInBounds_toArray, List.set_cons_zero, List.set_cons_succ]
            refine held_both (i := 4) (j := 8) (by kernel_rfl) _ rfl _ rfl ?_ ?_
            · refine wpOp_callG rfl (by rfl) 22 rfl 27 #[.slice (some ⟨g2, 0, none⟩) 2 2] (by unfold execOp; simp [go_sem]) _ (sub_call w2 g2 a b pl cl hl2 (H2.out.va.below hc2 (Nat.le_refl _)) (H2.out.vb.below hc2 (Nat.le_refl _)) hr2 HRR.out.1 HRR.out.2) ?_
              rintro x4 w3 ⟨⟨pt, tl, ct, x, hx, rfl, ht3, hit⟩, hb3⟩
              have hc3 := hc2.trans (hb3.mono hc2.size)
              have hcur := HS.out _ hc3
              refine ⟨hcur, ?_⟩
              simp only [Act.put, List.setIfInBounds_toArray, List.set_cons_zero, List.set_cons_succ]
              obtain ⟨cv, hcv⟩ : ∃ c, c = (#[.int .i64 (hiS x), .int .u64 (loN x)] : Array Value) := ⟨_, rfl⟩
              have hcs : cv.size = 2 := by rw [hcv]; rfl
              have hc1' : cv.all (·.oneCell') = true := by rw [hcv]; simp [Value.oneCell']
              rw [← hcv]
              refine tk 5 (.tuple #[.agg cv, .slice pt tl.length ct]) 17 rfl rfl hcur ?_
              refine tk 6 (.agg cv) 23 rfl rfl hcur ?_
              refine tk 7 (.slice pt tl.length ct) 24 rfl rfl hcur ?_
              refine held_one (i := 8) (by kernel_rfl) _ rfl ?_
              refine wpOp_valG (v := .pointer (some ⟨w3.heap.size, 0, none⟩)) (w' := w3.alloc (.cells #[.int .i64 0, .int .u64 0] 48)) rfl (by rfl) 6 rfl (by unfold execOp; simp [go_sem]) ?_
              have hb4 : Below w3.heap.size w3 (w3.alloc (.cells #[.int .i64 0, .int .u64 0] 48)) := (Below.refl _ _).alloc (Nat.le_refl _) _
              have hl4 : Lies (w3.alloc (.cells #[.int .i64 0, .int .u64 0] 48)) w3.heap.size #[.int .i64 0, .int .u64 0] 48 := Lies.new _ _ _
              generalize w3.alloc (.cells #[.int .i64 0, .int .u64 0] 48) = w4 at hb4 hl4 ⊢
              obtain ⟨g4, hg4⟩ : ∃ g, g = w3.heap.size := ⟨_, rfl⟩
              have hlt4 : W2.heap.size ≤ g4 := by rw [hg4]; exact hc3.size
              rw [← hg4] at hl4 ⊢
              have ht4 := ht3.below hb4 (Nat.le_refl _)
              have hc4 := hc3.trans (hb4.mono hc3.size)
              have hcur := HS.out _ hc4
              refine ⟨hcur, ?_⟩
              simp only [Act.put, List.setIfInBounds_toArray, List.set_cons_zero, List.set_cons_succ]
              refine held_one (i := 9) (by kernel_rfl) _ rfl ?_
              refine wpOp_storeRow rfl rfl 48 _ _ rfl g4 cv rfl rfl 48 #[.int .i64 0, .int .u64 0] hl4 (by rw [hcs]; exact info_wide) hcs.symm hc1' ?_
              have hbs := below_setRow hc4 g4 cv hlt4
              have hls : Lies (w4.setRow g4 cv) g4 cv 48 := hl4.setRow _
              have hts := RowT.setRow ht4 g4 cv hl4 (by decide)
              generalize w4.setRow g4 cv = w5 at hbs hls hts ⊢
              have hcur := HS.out _ hbs
              refine ⟨hcur, ?_⟩
              simp only [Act.put, List.setIfInBounds_toArray, List.set_cons_zero, List.set_cons_succ]
              refine tk 10 (.slice pt tl.length ct) 7 rfl rfl hcur ?_
              refine wpAnyH_done (by kernel_rfl) ?_ _
              unfold NoPanic
              dsimp only
              rw [hcv] at hls
              have HF := Lib.hid (show SubSums W2 w5 a b (.pointer (some ⟨g4, 0, none⟩)) (.slice pt tl.length ct) from ⟨g4, pt, tl, ct, x, hx, rfl, rfl, hls, hts, hit, hbs⟩)
              clear hcur hbs hls hts
              go_wp2_with fail
              go_meet
              case rel =>
                first | exact HF.out | (rw [← hg4]; exact HF.out)
            · refine wpOp_valG (v := .pointer (some ⟨w2.heap.size, 0, none⟩)) (w' := w2.alloc (.cells #[.int .i64 0, .int .u64 0] 48)) rfl (by rfl) 6 rfl (by unfold execOp; simp [go_sem]) ?_
              have hb6 : Below w2.heap.size w2 (w2.alloc (.cells #[.int .i64 0, .int .u64 0] 48)) := (Below.refl _ _).alloc (Nat.le_refl _) _
              have hl6 : Lies (w2.alloc (.cells #[.int .i64 0, .int .u64 0] 48)) w2.heap.size #[.int .i64 0, .int .u64 0] 48 := Lies.new _ _ _
              generalize w2.alloc (.cells #[.int .i64 0, .int .u64 0] 48) = w6 at hb6 hl6 ⊢
              obtain ⟨g6, hg6⟩ : ∃ g, g = w2.heap.size := ⟨_, rfl⟩
              have hlt6 : W2.heap.size ≤ g6 := by rw [hg6]; exact hc2.size
              rw [← hg6] at hl6 ⊢
              have hz6 := hl2.below hb6 hl2.lt
              have hr6 := hr2.below hb6 (Nat.le_refl _)
              have hc6 := hc2.trans (hb6.mono hc2.size)
              have hcur := HS.out _ hc6
              refine ⟨hcur, ?_⟩
              simp only [Act.put, List.setIfInBounds_toArray, List.set_cons_zero, List.set_cons_succ]
              refine held_one (i := 4) (by kernel_rfl) _ rfl ?_
              refine wpOp_callG rfl (by rfl) 22 rfl 27 #[.slice (some ⟨g2, 0, none⟩) 2 2] (by unfold execOp; simp [go_sem]) _ (sub_call w6 g2 a b pl cl hz6 (H2.out.va.below hc6 (Nat.le_refl _)) (H2.out.vb.below hc6 (Nat.le_refl _)) hr6 HRR.out.1 HRR.out.2) ?_
              rintro x4 w7 ⟨⟨pt, tl, ct, x, hx, rfl, ht7, hit⟩, hb7⟩
              have hz7 := hl6.below hb7 hl6.lt
              have hc7 := hc6.trans (hb7.mono hc6.size)
              have hcur := HS.out _ hc7
              refine ⟨hcur, ?_⟩
              simp only [Act.put, List.setIfInBounds_toArray, List.set_cons_zero, List.set_cons_succ]
              obtain ⟨cv, hcv⟩ : ∃ c, c = (#[.int .i64 (hiS x), .int .u64 (loN x)] : Array Value) := ⟨_, rfl⟩
              have hcs : cv.size = 2 := by rw [hcv]; rfl
              have hc1' : cv.all (·.oneCell') = true := by rw [hcv]; simp [Value.oneCell']
              rw [← hcv]
              refine tk 5 (.tuple #[.agg cv, .slice pt tl.length ct]) 17 rfl rfl hcur ?_
              refine tk 6 (.agg cv) 23 rfl rfl hcur ?_
              refine tk 7 (.slice pt tl.length ct) 24 rfl rfl hcur ?_
              refine held_one (i := 9) (by kernel_rfl) _ rfl ?_
              refine wpOp_storeRow rfl rfl 48 _ _ rfl g6 cv rfl rfl 48 #[.int .i64 0, .int .u64 0] hz7 (by rw [hcs]; exact info_wide) hcs.symm hc1' ?_
              have hbs := below_setRow hc7 g6 cv hlt6
              have hls : Lies (w7.setRow g6 cv) g6 cv 48 := hz7.setRow _
              have hts := RowT.setRow ht7 g6 cv hz7 (by decide)
              generalize w7.setRow g6 cv = w8 at hbs hls hts ⊢
              have hcur := HS.out _ hbs
              refine ⟨hcur, ?_⟩
              simp only [Act.put, List.setIfInBounds_toArray, List.set_cons_zero, List.set_cons_succ]
              refine tk 10 (.slice pt tl.length ct) 7 rfl rfl hcur ?_
              refine wpAnyH_done (by kernel_rfl) ?_ _
              unfold NoPanic
              dsimp only
              rw [hcv] at hls
              have HF := Lib.hid (show SubSums W2 w8 a b (.pointer (some ⟨g6, 0, none⟩)) (.slice pt tl.length ct) from ⟨g6, pt, tl, ct, x, hx, rfl, rfl, hls, hts, hit, hbs⟩)
              clear hcur hbs hls hts
              go_wp2_with fail
              go_meet
              case rel =>
                first | exact HF.out | (rw [← hg6]; exact HF.out)
          · refine wpOp_valG (v := .pointer (some ⟨w1.heap.size, 0, none⟩)) (w' := w1.alloc (.cells #[.int .i64 0, .int .u64 0] 48)) rfl (by rfl) 6 rfl (by unfold execOp; simp [go_sem]) ?_
            have hb9 : Below w1.heap.size w1 (w1.alloc (.cells #[.int .i64 0, .int .u64 0] 48)) := (Below.refl _ _).alloc (Nat.le_refl _) _
            have hl9 : Lies (w1.alloc (.cells #[.int .i64 0, .int .u64 0] 48)) w1.heap.size #[.int .i64 0, .int .u64 0] 48 := Lies.new _ _ _
            generalize w1.alloc (.cells #[.int .i64 0, .int .u64 0] 48) = w9 at hb9 hl9 ⊢
            obtain ⟨g9, hg9⟩ : ∃ g, g = w1.heap.size := ⟨_, rfl⟩
            have hlt9 : W2.heap.size ≤ g9 := by rw [hg9]; exact hc1.size
            rw [← hg9] at hl9 ⊢
            have hr9 := hrl1.below hb9 (Nat.le_refl _)
            have hc9 := hc1.trans (hb9.mono hc1.size)
            have hcur := HS.out _ hc9
            refine ⟨hcur, ?_⟩
            simp only [Act.put, List.setIfInBounds_toArray, List.set_cons_zero, List.set_cons_succ]
            refine held_one (i := 3) (by kernel_rfl) _ rfl ?_
            refine wpOp_valG (v := .slice (some ⟨w9.heap.size, 0, none⟩) 2 2) (w' := w9.alloc (.cells #[.int .i64 a.coin, .slice a.pa a.l.length a.c, .int .i64 (-b.coin), .slice pl (turnL b.l).length cl] 24)) rfl (by rfl) 21 rfl (by unfold execOp; simp [go_sem]) ?_
            have hb10 : Below w9.heap.size w9 (w9.alloc (.cells #[.int .i64 a.coin, .slice a.pa a.l.length a.c, .int .i64 (-b.coin), .slice pl (turnL b.l).length cl] 24)) := (Below.refl _ _).alloc (Nat.le_refl _) _
            have hl10 : Lies (w9.alloc (.cells #[.int .i64 a.coin, .slice a.pa a.l.length a.c, .int .i64 (-b.coin), .slice pl (turnL b.l).length cl] 24)) w9.heap.size #[.int .i64 a.coin, .slice a.pa a.l.length a.c, .int .i64 (-b.coin), .slice pl (turnL b.l).length cl] 24 := Lies.new _ _ _
            generalize w9.alloc (.cells #[.int .i64 a.coin, .slice a.pa a.l.length a.c, .int .i64 (-b.coin), .slice pl (turnL b.l).length cl] 24) = w10 at hb10 hl10 ⊢
            obtain ⟨g10, hg10⟩ : ∃ g, g = w9.heap.size := ⟨_, rfl⟩
            rw [← hg10] at hl10 ⊢
            have hr10 := hr9.below hb10 (Nat.le_refl _)
            have hz10 := hl9.below hb10 hl9.lt
            have hc10 := hc9.trans (hb10.mono hc9.size)
            have hcur := HS.out _ hc10
            refine ⟨hcur, ?_⟩
            simp only [Act.put, List.setIfInBounds_toArray, List.set_cons_zero, List.set_cons_succ]
            refine held_one (i := 4) (by kernel_rfl) _ rfl ?_
            refine wpOp_callG rfl (by rfl) 22 rfl 27 #[.slice (some ⟨g10, 0, none⟩) 2 2] (by unfold execOp; simp [go_sem]) _ (sub_call w10 g10 a b pl cl hl10 (H2.out.va.below hc10 (Nat.le_refl _)) (H2.out.vb.below hc10 (Nat.le_refl _)) hr10 HRR.out.1 HRR.out.2) ?_
            rintro x4 w11 ⟨⟨pt, tl, ct, x, hx, rfl, ht11, hit⟩, hb11⟩
            have hz11 := hz10.below hb11 hz10.lt
            have hc11 := hc10.trans (hb11.mono hc10.size)
            have hcur := HS.out _ hc11
            refine ⟨hcur, ?_⟩
            simp only [Act.put, List.setIfInBounds_toArray, List.set_cons_zero, List.set_cons_succ]
            obtain ⟨cv, hcv⟩ : ∃ c, c = (#[.int .i64 (hiS x), .int .u64 (loN x)] : Array Value) := ⟨_, rfl⟩
            have hcs : cv.size = 2 := by rw [hcv]; rfl
            have hc1' : cv.all (·.oneCell') = true := by rw [hcv]; simp [Value.oneCell']
            rw [← hcv]
            refine tk 5 (.tuple #[.agg cv, .slice pt tl.length ct]) 17 rfl rfl hcur ?_
            refine tk 6 (.agg cv) 23 rfl rfl hcur ?_
            refine tk 7 (.slice pt tl.length ct) 24 rfl rfl hcur ?_
            refine held_one (i := 9) (by kernel_rfl) _ rfl ?_
            refine wpOp_storeRow rfl rfl 48 _ _ rfl g9 cv rfl rfl 48 #[.int .i64 0, .int .u64 0] hz11 (by rw [hcs]; exact info_wide) hcs.symm hc1' ?_
            have hbs := below_setRow hc11 g9 cv hlt9
            have hls : Lies (w11.setRow g9 cv) g9 cv 48 := hz11.setRow _
            have hts := RowT.setRow ht11 g9 cv hz11 (by decide)
            generalize w11.setRow g9 cv = w12 at hbs hls hts ⊢
            have hcur := HS.out _ hbs
            refine ⟨hcur, ?_⟩
            simp only [Act.put, List.setIfInBounds_toArray, List.set_cons_zero, List.set_cons_succ]
            refine tk 10 (.slice pt tl.length ct) 7 rfl rfl hcur ?_
            refine wpAnyH_done (by kernel_rfl) ?_ _
            unfold NoPanic
            dsimp only
            rw [hcv] at hls
            have HF := Lib.hid (show SubSums W2 w12 a b (.pointer (some ⟨g9, 0, none⟩)) (.slice pt tl.length ct) from ⟨g9, pt, tl, ct, x, hx, rfl, rfl, hls, hts, hit, hbs⟩)
            clear hcur hbs hls hts
            go_wp2_with fail
            go_meet
            case rel =>
              first | exact HF.out | (rw [← hg9]; exact HF.out)
        · refine wpOp_valG (v := .pointer (some ⟨wd.heap.size, 0, none⟩)) (w' := wd.alloc (.cells #[.int .i64 0, .int .u64 0] 48)) rfl (by rfl) 6 rfl (by unfold execOp; simp [go_sem]) ?_
          have hb13 : Below wd.heap.size wd (wd.alloc (.cells #[.int .i64 0, .int .u64 0] 48)) := (Below.refl _ _).alloc (Nat.le_refl _) _
          have hl13 : Lies (wd.alloc (.cells #[.int .i64 0, .int .u64 0] 48)) wd.heap.size #[.int .i64 0, .int .u64 0] 48 := Lies.new _ _ _
          generalize wd.alloc (.cells #[.int .i64 0, .int .u64 0] 48) = w13 at hb13 hl13 ⊢
          obtain ⟨g13, hg13⟩ : ∃ g, g = wd.heap.size := ⟨_, rfl⟩
          have hlt13 : W2.heap.size ≤ g13 := by rw [hg13]; exact hcd.size
          rw [← hg13] at hl13 ⊢
          have hc13 := hcd.trans (hb13.mono hcd.size)
          have hcur := HS.out _ hc13
          refine ⟨hcur, ?_⟩
          simp only [Act.put, List.setIfInBounds_toArray, List.set_cons_zero, List.set_cons_succ]
          refine held_one (i := 2) (by kernel_rfl) _ rfl ?_
          refine wpOp_callG rfl (by rfl) 20 rfl 54 #[.agg #[.int .i64 b.coin, .slice b.pa b.l.length b.c]] (by unfold execOp; simp [go_sem]) _ (ret_less (rless_any w13 b (H2.out.vb.below hc13 (Nat.le_refl _)) HRR.out.2)) ?_
          rintro x2 w14 ⟨⟨pl, cl, rfl, hrl14⟩, hb14⟩
          have hz14 := hl13.below hb14 hl13.lt
          have hc14 := hc13.trans (hb14.mono hc13.size)
          have hcur := HS.out _ hc14
          refine ⟨hcur, ?_⟩
          simp only [Act.put, List.setIfInBounds_toArray, List.set_cons_zero, List.set_cons_succ]
          refine held_one (i := 3) (by kernel_rfl) _ rfl ?_
          refine wpOp_valG (v := .slice (some ⟨w14.heap.size, 0, none⟩) 2 2) (w' := w14.alloc (.cells #[.int .i64 a.coin, .slice a.pa a.l.length a.c, .int .i64 (-b.coin), .slice pl (turnL b.l).length cl] 24)) rfl (by rfl) 21 rfl (by unfold execOp; simp [go_sem]) ?_
          have hb15 : Below w14.heap.size w14 (w14.alloc (.cells #[.int .i64 a.coin, .slice a.pa a.l.length a.c, .int .i64 (-b.coin), .slice pl (turnL b.l).length cl] 24)) := (Below.refl _ _).alloc (Nat.le_refl _) _
          have hl15 : Lies (w14.alloc (.cells #[.int .i64 a.coin, .slice a.pa a.l.length a.c, .int .i64 (-b.coin), .slice pl (turnL b.l).length cl] 24)) w14.heap.size #[.int .i64 a.coin, .slice a.pa a.l.length a.c, .int .i64 (-b.coin), .slice pl (turnL b.l).length cl] 24 := Lies.new _ _ _
          generalize w14.alloc (.cells #[.int .i64 a.coin, .slice a.pa a.l.length a.c, .int .i64 (-b.coin), .slice pl (turnL b.l).length cl] 24) = w15 at hb15 hl15 ⊢
          obtain ⟨g15, hg15⟩ : ∃ g, g = w14.heap.size := ⟨_, rfl⟩
          rw [← hg15] at hl15 ⊢
          have hr15 := hrl14.below hb15 (Nat.le_refl _)
          have hz15 := hz14.below hb15 hz14.lt
          have hc15 := hc14.trans (hb15.mono hc14.size)
          have hcur := HS.out _ hc15
          refine ⟨hcur, ?_⟩
          simp only [Act.put, List.setIfInBounds_toArray, List.set_cons_zero, List.set_cons_succ]
          refine held_one (i := 4) (by kernel_rfl) _ rfl ?_
          refine wpOp_callG rfl (by rfl) 22 rfl 27 #[.slice (some ⟨g15, 0, none⟩) 2 2] (by unfold execOp; simp [go_sem]) _ (sub_call w15 g15 a b pl cl hl15 (H2.out.va.below hc15 (Nat.le_refl _)) (H2.out.vb.below hc15 (Nat.le_refl _)) hr15 HRR.out.1 HRR.out.2) ?_
          rintro x4 w16 ⟨⟨pt, tl, ct, x, hx, rfl, ht16, hit⟩, hb16⟩
          have hz16 := hz15.below hb16 hz15.lt
          have hc16 := hc15.trans (hb16.mono hc15.size)
          have hcur := HS.out _ hc16
          refine ⟨hcur, ?_⟩
          simp only [Act.put, List.setIfInBounds_toArray, List.set_cons_zero, List.set_cons_succ]
          obtain ⟨cv, hcv⟩ : ∃ c, c = (#[.int .i64 (hiS x), .int .u64 (loN x)] : Array Value) := ⟨_, rfl⟩
          have hcs : cv.size = 2 := by rw [hcv]; rfl
          have hc1' : cv.all (·.oneCell') = true := by rw [hcv]; simp [Value.oneCell']
          rw [← hcv]
          refine tk 5 (.tuple #[.agg cv, .slice pt tl.length ct]) 17 rfl rfl hcur ?_
          refine tk 6 (.agg cv) 23 rfl rfl hcur ?_
          refine tk 7 (.slice pt tl.length ct) 24 rfl rfl hcur ?_
          refine held_one (i := 9) (by kernel_rfl) _ rfl ?_
          refine wpOp_storeRow rfl rfl 48 _ _ rfl g13 cv rfl rfl 48 #[.int .i64 0, .int .u64 0] hz16 (by rw [hcs]; exact info_wide) hcs.symm hc1' ?_
          have hbs := below_setRow hc16 g13 cv hlt13
          have hls : Lies (w16.setRow g13 cv) g13 cv 48 := hz16.setRow _
          have hts := RowT.setRow ht16 g13 cv hz16 (by decide)
          generalize w16.setRow g13 cv = w17 at hbs hls hts ⊢
          have hcur := HS.out _ hbs
          refine ⟨hcur, ?_⟩
          simp only [Act.put, List.setIfInBounds_toArray, List.set_cons_zero, List.set_cons_succ]
          refine tk 10 (.slice pt tl.length ct) 7 rfl rfl hcur ?_
          refine wpAnyH_done (by kernel_rfl) ?_ _
          unfold NoPanic
          dsimp only
          rw [hcv] at hls
          have HF := Lib.hid (show SubSums W2 w17 a b (.pointer (some ⟨g13, 0, none⟩)) (.slice pt tl.length ct) from ⟨g13, pt, tl, ct, x, hx, rfl, rfl, hls, hts, hit, hbs⟩)
          clear hcur hbs hls hts
          go_wp2_with fail
          go_meet
          case rel =>
            first | exact HF.out | (rw [← hg13]; exact HF.out)
      case rest =>
        obtain ⟨g, pt, tl, ct, x, hx, rfl, rfl, hlx, htx, hit, hbx⟩ := hcut
        have hst := H2.out.step hbx
        have c0 := hlx.cell 0 (v := .int .i64 (hiS x)) rfl
        have c1 := hlx.cell 1 (v := .int .u64 (loN x)) rfl
        have hbn := rbundle_any wc x pt tl ct htx
        have H3 := Lib.hid (And.intro hst (And.intro hbn (And.intro hx hit)))
        clear hst hbn hx hit hlx htx hbx
        go_wp2_with fail
        refine H3.out.2.1.mono ?_
        rintro e W5 ⟨hres, hb5⟩
        have hst := H3.out.1.step hb5
        rcases hres with ⟨hok, p2, c2, rfl, hrow⟩ | ⟨hno, rfl⟩
        · have htog := bun_tog hok H3.out.2.2.2
          obtain ⟨X, hX⟩ : ∃ z : Int, z = x.toNat := ⟨_, rfl⟩
          rw [← hX] at htog ⊢
          have hfar : Row (W5.setRow (w.heap.size + 1 + 1) #[.int .i64 X, .slice p2 (asT tl).length c2]) p2 (asT tl) := row_setRow hrow _ _ hst.res (show 2 ≤ 33 by decide)
          have H5 := Lib.hid (And.intro hst (And.intro hfar htog))
          clear hb5 hst hrow hok htog hX hfar c0 c1
          go_wp2_with (refine wpList_store_row rfl 24 _ _ rfl (w.heap.size + 1 + 1) #[.int .i64 X, .slice p2 (asT tl).length c2] rfl rfl 24 #[.int .i64 0, .slice none 0 0] H5.out.1.res info_value rfl (by simp [Value.oneCell']) ?_)
          refine bodyPost_ret (v := .tuple #[.agg #[.int .i64 X, .slice p2 (asT tl).length c2], .bool true]) (results_row_tmp (p := 4) (u := 5) (ty := 24) (by kernel_rfl) _ _ (w.heap.size + 1 + 1) 24 #[.int .i64 X, .slice p2 (asT tl).length c2] (0, 0) _ rfl (H5.out.1.res.setRow _) Tryz.underlying24 rfl info_value) rfl ⟨⟨true, X, asT tl, p2, c2, rfl, H5.out.2.1, .inl ⟨rfl, HRR.out, by rw [← H3.out.2.2.1]; exact H5.out.2.2⟩⟩, below_setRow H5.out.1.below _ _ (by omega)⟩
        · have hn2 : SubN a b := fun coin l hz => bun_no hno H3.out.2.2.2 coin l (by rw [H3.out.2.2.1]; exact hz.2)
          have HN := Lib.hid hn2
          have H5 := Lib.hid hst
          clear hb5 hst hno hn2 c0 c1
          go_wp2_with (refine wpList_store_row rfl 24 _ _ rfl (w.heap.size + 1 + 1) #[.int .i64 0, .slice none 0 0] rfl rfl 24 #[.int .i64 0, .slice none 0 0] H5.out.res info_value rfl (by simp [Value.oneCell']) ?_)
          refine bodyPost_ret (v := .tuple #[.agg #[.int .i64 0, .slice none 0 0], .bool false]) (results_row_tmp (p := 4) (u := 5) (ty := 24) (by kernel_rfl) _ _ (w.heap.size + 1 + 1) 24 #[.int .i64 0, .slice none 0 0] (0, 0) _ rfl (H5.out.res.setRow _) Tryz.underlying24 rfl info_value) rfl ⟨⟨false, 0, [], none, 0, rfl, row_nil _, .inr ⟨rfl, rfl, rfl, HN.out⟩⟩, below_setRow H5.out.below _ _ (by omega)⟩
end Go.Proofs.YtjngghihciimjaaGreat
