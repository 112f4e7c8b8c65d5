/-
  pack: PackOrder: of two refs one stands ahead, or they are one; of three it is passed on; right entries stand so.
-/
import Derived.Test.YtilbbemdinpjcaaGreatJPu
import Derived.Test.YtilbbemdinpjcaaGreatJQf
import Derived.Test.YtilbbemdinpjcaaGreatJPh
namespace Go.Proofs.YtilbbemdinpjcaaGreat.P
set_option maxRecDepth 100000
open Go.RowKit Go.Sort

theorem wpList_load_rowQ {P : Program} {ops : Array Oper} {rest : List Oper} {o : Oper} {a : Act} {w : World} {Q : Exit → Act → World → Prop} (hw : Region.wanted o (yielded ops a.tmps) = true) (ty : TypeId) (x : Operand) (ho : o.op = .load ty x)
    (g : Nat) (hx : a.eval x = .pointer (some ⟨g, 0, none⟩)) (t : TypeId) (cs : Array Value) (fr : Nat × Nat) (d : TypeDesc) (hg : w.heap[g]? = some (.cells cs t fr))
    (hu : P.underlying ty = some d) (hd : (match d with | .struct _ | .array _ _ => true | _ => false) = true) (hi : (P.info? ty).map (·.size) = some cs.size)
    (h : wpList P ops Q rest (a.put o.dst (.agg cs)) w) : wpList P ops Q (o :: rest) a w := by
  unfold wpList
  rw [if_pos hw]
  exact .inl (wp_load_row ty x ho g hx t cs fr d hg hu hd hi h)
theorem three_refs (w : World) (A C D : Array Value) (t : TypeId) : (Lies (((w.alloc (.cells A t)).alloc (.cells C t)).alloc (.cells D t)) w.heap.size A t ∧ Lies (((w.alloc (.cells A t)).alloc (.cells C t)).alloc (.cells D t)) (w.heap.size + 1) C t ∧ Lies (((w.alloc (.cells A t)).alloc (.cells C t)).alloc (.cells D t)) (w.heap.size + 2) D t) ∧ Below w.heap.size w (((w.alloc (.cells A t)).alloc (.cells C t)).alloc (.cells D t)) := by
  obtain ⟨h1, h2, h3, h4, _⟩ := box_three w A C D t t t
  exact ⟨⟨h1, h2, h3⟩, h4⟩
set_option maxHeartbeats 8000000 in
theorem order_any (w : World) (ra rb rc : Rf) (pa : Option Addr) (es : List En) (c : Nat) (ha : RfOk ra) (hb : RfOk rb) (hc : RfOk rc) (h : RowER w pa es) :
    Calls Tryz.prog 8 #[.agg (refC ra), .agg (refC rb), .agg (refC rc), .slice pa es.length c] w fun e w' => e = .returned (.bool true) ∧ Below w.heap.size w w' := by
  obtain ⟨av, hav⟩ : ∃ x, x = refC ra := ⟨_, rfl⟩
  obtain ⟨bv, hbv⟩ : ∃ x, x = refC rb := ⟨_, rfl⟩
  obtain ⟨cv, hcv⟩ : ∃ x, x = refC rc := ⟨_, rfl⟩
  obtain ⟨hl3, hb3⟩ := three_refs w av bv cv 37
  obtain ⟨n, hn⟩ : ∃ n, n = es.length := ⟨_, rfl⟩
  have hni : (n : Int) ≤ 9223372036854775807 := by have := h.1; unfold maxLen at this; omega
  have K0 : Hid (∀ V, Below w.heap.size w V → Calls Tryz.prog 40 #[.slice pa n c, .int .i64 2000] V fun e w' => CntRes (cntE es) 2000 800000000000000000 e ∧ Below V.heap.size V w') := Lib.hid fun V hV => by
    rw [hn]
    exact entriesOf_any V pa es c 2000 (by omega) (h.below hV (Nat.le_refl _))
  have KL : Hid (∀ V, Calls Tryz.prog 21 #[.agg av, .agg bv] V (fun e w' => e = .returned (.bool (lessR ra rb)) ∧ Below V.heap.size V w') ∧ Calls Tryz.prog 21 #[.agg bv, .agg av] V (fun e w' => e = .returned (.bool (lessR rb ra)) ∧ Below V.heap.size V w') ∧ Calls Tryz.prog 21 #[.agg bv, .agg cv] V (fun e w' => e = .returned (.bool (lessR rb rc)) ∧ Below V.heap.size V w') ∧ Calls Tryz.prog 21 #[.agg av, .agg cv] V (fun e w' => e = .returned (.bool (lessR ra rc)) ∧ Below V.heap.size V w')) := Lib.hid fun V => by
    rw [hav, hbv, hcv]
    exact ⟨less_any V ra rb ha.1 hb.1, less_any V rb ra hb.1 ha.1, less_any V rb rc hb.1 hc.1, less_any V ra rc ha.1 hc.1⟩
  have HEQ : Hid (∀ V, (binOp .eql 37 (.agg av) (.agg bv)).run Tryz.prog V = .ok (.bool (decide (ra = rb))) V) := Lib.hid fun V => by rw [hav, hbv]; exact eq_ref V ra rb ha hb
  have HI := Lib.hid (And.intro (show (Tryz.prog.info? 37).map (·.size) = some av.size by rw [hav, refC_size _ ha.1]; exact info_ref) (And.intro (show (Tryz.prog.info? 37).map (·.size) = some bv.size by rw [hbv, refC_size _ hb.1]; exact info_ref) (show (Tryz.prog.info? 37).map (·.size) = some cv.size by rw [hcv, refC_size _ hc.1]; exact info_ref)))
  have H := Lib.hid (And.intro h hn)
  rw [← hav, ← hbv, ← hcv, ← hn]
  clear h hn hav hbv hcv ha hb hc
  obtain ⟨W0, HW⟩ : ∃ W0, (((w.alloc (.cells av 37)).alloc (.cells bv 37)).alloc (.cells cv 37)) = W0 := ⟨_, rfl⟩
  rw [HW] at hl3 hb3
  go_enter Tryz.func8, Tryz.ntmps8
  go_upto_region 1 with fail
  clear HW
  obtain ⟨p, hp⟩ : ∃ p, p = w.heap.size := ⟨_, rfl⟩
  obtain ⟨q, hq⟩ : ∃ q, q = w.heap.size + 1 := ⟨_, rfl⟩
  obtain ⟨r, hr⟩ : ∃ r, r = w.heap.size + 2 := ⟨_, rfl⟩
  rw [← hr, ← hq, ← hp] at hl3
  rw [show w.heap.size + 1 + 1 = w.heap.size + 2 from rfl, ← hr, ← hq, ← hp]
  clear hp hq hr
  have HB := Lib.hid (And.intro hl3 hb3)
  clear hl3 hb3
  go_wp2_with fail
  refine (awakeP_any W0).mono ?_
  rintro e W1 ⟨rfl, hb1⟩
  have H1 := Lib.hid (HB.out.2.trans (hb1.mono HB.out.2.size))
  have HL1 := Lib.hid (And.intro (HB.out.1.1.below hb1 HB.out.1.1.lt) (And.intro (HB.out.1.2.1.below hb1 HB.out.1.2.1.lt) (HB.out.1.2.2.below hb1 HB.out.1.2.2.lt)))
  clear hb1
  go_wp2_with fail
  refine (K0.out W1 H1.out).mono ?_
  rintro e W2 ⟨⟨z, rfl, hz1, hz2⟩, hb2⟩
  have H2 := Lib.hid (H1.out.trans (hb2.mono H1.out.size))
  have HL2 := Lib.hid (And.intro (HL1.out.1.below hb2 HL1.out.1.lt) (And.intro (HL1.out.2.1.below hb2 HL1.out.2.1.lt) (HL1.out.2.2.below hb2 HL1.out.2.2.lt)))
  clear hb2
  by_cases hzz : (2000 : Int) < z
  · clear hz2
    go_wp2_with fail
    go_ret
    exact ⟨rfl, H2.out⟩
  · have hcnt := hz2 (by omega)
    have hrow : RowE w pa es := H.out.1.small (by omega)
    have HR := Lib.hid hrow
    clear hz2 hcnt hrow
    go_upto_region 5 with fail
    have HS : Hid (∀ V, Below W2.heap.size W2 V → V.rangeAt p 0 av.toList ∧ V.rangeAt q 0 bv.toList) := Lib.hid fun V hV => ⟨lies_range (HL2.out.1.below hV HL2.out.1.lt), lies_range (HL2.out.2.1.below hV HL2.out.2.1.lt)⟩
    obtain ⟨ab, hab⟩ : ∃ x, x = lessR ra rb := ⟨_, rfl⟩
    obtain ⟨ba, hba⟩ : ∃ x, x = lessR rb ra := ⟨_, rfl⟩
    obtain ⟨bc, hbc⟩ : ∃ x, x = lessR rb rc := ⟨_, rfl⟩
    obtain ⟨ac, hac⟩ : ∃ x, x = lessR ra rc := ⟨_, rfl⟩
    rw [← hab, ← hba, ← hbc, ← hac] at KL
    have HF := Lib.hid (And.intro hab (And.intro hba (And.intro hbc hac)))
    clear hab hba hbc hac
    refine wp_region_held (S := Below W2.heap.size W2) (by kernel_rfl) ?_
    change wpAnyH _ _ _ _ _ 8 _ _ (World.drew W2)
    have hcur : Below W2.heap.size W2 W2.drew := (Below.refl _ _).drew
    refine tk 0 (.agg av) 17 rfl rfl hcur ?_ (by intro w' hS'; exact exec_loadM 37 (.tmp 4) rfl p 0 rfl av ((HS.out w' hS').1) Tryz.underlying37 rfl HI.out.1)
    refine tk 1 (.agg bv) 18 rfl rfl hcur ?_ (by intro w' hS'; exact exec_loadM 37 (.tmp 5) rfl q 0 rfl bv ((HS.out w' hS').2) Tryz.underlying37 rfl HI.out.2.1)
    refine tk 3 (.agg bv) 20 rfl rfl hcur ?_ (by intro w' hS'; exact exec_loadM 37 (.tmp 5) rfl q 0 rfl bv ((HS.out w' hS').2) Tryz.underlying37 rfl HI.out.2.1)
    refine tk 4 (.agg av) 21 rfl rfl hcur ?_ (by intro w' hS'; exact exec_loadM 37 (.tmp 4) rfl p 0 rfl av ((HS.out w' hS').1) Tryz.underlying37 rfl HI.out.1)
    generalize W2.drew = V0 at hcur ⊢
    refine held_one (i := 2) (by kernel_rfl) _ rfl (wpOp_callG rfl (by rfl) 19 rfl 21 #[.agg av, .agg bv] (by unfold execOp; simp [go_sem]) _ (ret_gro (KL.out _).1) ?_)
    rintro _ U1 ⟨rfl, hn⟩
    have hcur := hcur.trans (hn.mono hcur.size)
    clear hn
    refine ⟨hcur, ?_⟩
    simp only [Act.put, List.setIfInBounds_toArray, List.set_cons_zero, List.set_cons_succ]
    refine held_one (i := 5) (by kernel_rfl) _ rfl (wpOp_callG rfl (by rfl) 22 rfl 21 #[.agg bv, .agg av] (by unfold execOp; simp [go_sem]) _ (ret_gro (KL.out _).2.1) ?_)
    rintro _ U2 ⟨rfl, hn⟩
    have hcur := hcur.trans (hn.mono hcur.size)
    clear hn
    refine ⟨hcur, ?_⟩
    simp only [Act.put, List.setIfInBounds_toArray, List.set_cons_zero, List.set_cons_succ]
    refine tk 6 (.bool ab) 9 rfl rfl hcur ?_
    refine tk 7 (.bool ba) 10 rfl rfl hcur ?_
    refine held_done (by kernel_rfl) ?_
    have hw := H2.out.trans (hcur.mono H2.out.size)
    have HLW := Lib.hid (And.intro (HL2.out.1.below hcur HL2.out.1.lt) (And.intro (HL2.out.2.1.below hcur HL2.out.2.1.lt) (HL2.out.2.2.below hcur HL2.out.2.2.lt)))
    have H3 := Lib.hid hw
    clear hcur hw
    have hcont : ∀ (x : Bool), True := fun _ => trivial
    clear hcont
    have heq := HEQ.out
    have hturn := lessR_turn ra rb
    have hsame := lessR_same ra rb
    have htr := @lessR_trans ra rb rc
    rw [← HF.out.1, ← HF.out.2.1] at hturn hsame
    rw [← HF.out.1, ← HF.out.2.2.1, ← HF.out.2.2.2] at htr
    cases ab with
    | true =>
      cases ba with
      | true => exact absurd ⟨rfl, rfl⟩ hturn
      | false =>
        have hne : decide (ra = rb) = false := by
          rw [decide_eq_false_iff_not]
          intro e
          have := hsame.2 e
          cases this.1
        simp only [hne] at heq
        cases bc with
        | true =>
          have hac1 := htr rfl rfl
          rw [hac1] at KL
          clear hturn hsame htr hac1 hne
          go_wp2_with (first
            | (refine wpList_load_rowQ (by rfl) 37 _ rfl p rfl 37 av (0, 0) _ HLW.out.1 Tryz.underlying37 rfl HI.out.1 ?_)
            | (refine wpList_load_rowQ (by rfl) 37 _ rfl q rfl 37 bv (0, 0) _ HLW.out.2.1 Tryz.underlying37 rfl HI.out.2.1 ?_)
            | (refine wpList_load_rowQ (by rfl) 37 _ rfl r rfl 37 cv (0, 0) _ HLW.out.2.2 Tryz.underlying37 rfl HI.out.2.2 ?_))
          refine (KL.out _).2.2.1.mono ?_
          rintro e U3 ⟨rfl, hb9⟩
          have hw9 := H3.out.trans (hb9.mono H3.out.size)
          have HL9 := Lib.hid (And.intro (HLW.out.1.below hb9 HLW.out.1.lt) (And.intro (HLW.out.2.1.below hb9 HLW.out.2.1.lt) (HLW.out.2.2.below hb9 HLW.out.2.2.lt)))
          have H9 := Lib.hid hw9
          clear hb9 hw9
          go_wp2_with (first
            | (refine wpList_load_rowQ (by rfl) 37 _ rfl p rfl 37 av (0, 0) _ HL9.out.1 Tryz.underlying37 rfl HI.out.1 ?_)
            | (refine wpList_load_rowQ (by rfl) 37 _ rfl r rfl 37 cv (0, 0) _ HL9.out.2.2 Tryz.underlying37 rfl HI.out.2.2 ?_))
          refine (KL.out _).2.2.2.mono ?_
          rintro e U4 ⟨rfl, hb9⟩
          have HWT := Lib.hid (H9.out.trans (hb9.mono H9.out.size))
          clear hb9 heq
          go_wp2_with fail
          go_loopw [11] (fun i V => ∃ k : Nat, 1 ≤ k ∧ i = .int .i64 k ∧ Below w.heap.size w V) (fun i _ => n - (intOf i).toNat)
          case atStart => exact ⟨1, Nat.le_refl _, by go_num, HWT.out⟩
          case round =>
            obtain ⟨k, hk1, rfl, hbw⟩ := hrel
            by_cases hlt : k < n
            · have m1 : (k : Int) < (n : Int) := by omega
              have KR := Lib.hid (rightEntries_any wr pa es c (HR.out.below hbw (Nat.le_refl _)))
              rw [← H.out.2] at KR
              obtain ⟨rb, hrb⟩ : ∃ b, b = rightEB es := ⟨_, rfl⟩
              rw [← hrb] at KR
              have HRB := Lib.hid hrb
              have HBW := Lib.hid hbw
              clear hrb hbw
              go_wp2_with fail
              refine KR.out.mono ?_
              rintro e U5 ⟨rfl, hb5⟩
              have H5 := Lib.hid (HBW.out.trans (hb5.mono HBW.out.size))
              clear hb5
              cases rb with
              | false =>
                go_wp2_with fail
                go_ret
                exact ⟨rfl, H5.out⟩
              | true =>
                obtain ⟨m, hm⟩ : ∃ m, k = m + 1 := ⟨k - 1, by omega⟩
                have hnn := H.out.2
                obtain ⟨g, off, hpa, hg, hh⟩ := HR.out.2 (by omega)
                subst hpa
                obtain ⟨d, hkd⟩ : ∃ d, es[m]? = some d := ⟨es[m]'(by omega), List.getElem?_eq_getElem _⟩
                obtain ⟨e, hke⟩ : ∃ e, es[m + 1]? = some e := ⟨es[m + 1]'(by omega), List.getElem?_eq_getElem _⟩
                have hD := hh.below H5.out hg (Nat.le_refl _) m d hkd
                have hE := hh.below H5.out hg (Nat.le_refl _) (m + 1) e hke
                have hless := right_rise HRB.out.symm hkd hke
                obtain ⟨dv, hdv⟩ : ∃ v, v = refC d.r := ⟨_, rfl⟩
                obtain ⟨ev, hev⟩ : ∃ v, v = refC e.r := ⟨_, rfl⟩
                have hg5 : g < U5.heap.size := Nat.lt_of_lt_of_le hg H5.out.size
                have K3 : Hid (∀ V, Calls Tryz.prog 21 #[.agg dv, .agg ev] V fun e w' => e = .returned (.bool true) ∧ Below V.heap.size V w') := Lib.hid fun V => by
                  have := less_any V d.r e.r hD.2.r.1 hE.2.r.1
                  rw [hless] at this
                  rw [hdv, hev]
                  exact this
                have HS2 : Hid (∀ V, Below U5.heap.size U5 V → V.rangeAt g (off + m * 102) dv.toList ∧ V.rangeAt g (off + k * 102) ev.toList) := Lib.hid fun V hV => by
                  rw [hm]
                  refine ⟨fun j v hj => ?_, fun j v hj => ?_⟩
                  · exact (hV.cell (p := ⟨g, off + m * 102 + j, none⟩) hg5).trans (hD.1 j v (enC_ref hD.2 j v (by rw [← hdv]; exact hj)))
                  · exact (hV.cell (p := ⟨g, off + (m + 1) * 102 + j, none⟩) hg5).trans (hE.1 j v (enC_ref hE.2 j v (by rw [← hev]; exact hj)))
                have HI2 := Lib.hid (And.intro (show (Tryz.prog.info? 37).map (·.size) = some dv.size by rw [hdv, refC_size _ hD.2.r.1]; exact info_ref) (show (Tryz.prog.info? 37).map (·.size) = some ev.size by rw [hev, refC_size _ hE.2.r.1]; exact info_ref))
                have hkm : IntKind.i64.wrap ((k : Int) - 1) = (m : Int) := by rw [IntKind.wrap_i64]; omega
                have q0 : (0 : Int) ≤ (m : Int) := by omega
                have q1 : (m : Int) < (n : Int) := by omega
                have q2 : (0 : Int) ≤ (k : Int) := by omega
                clear hm hnn hg hh hkd hke hD hE hless hdv hev hg5
                go_upto_region 11 with fail
                refine wp_region_held (S := Below U5.heap.size U5) (by kernel_rfl) ?_
                change wpAnyH _ _ _ _ _ 13 _ _ (World.drew U5)
                have hcur : Below U5.heap.size U5 U5.drew := (Below.refl _ _).drew
                refine tk 0 (.slice (some ⟨g, off, none⟩) n c) 63 rfl rfl hcur ?_
                refine tk 1 (.int .i64 (k : Int)) 64 rfl rfl hcur ?_
                refine tk 2 (.int .i64 (m : Int)) 65 rfl rfl hcur ?_ (by intro w' hS'; unfold execOp; simp [go_sem, hkm])
                refine tk 3 (.pointer (some ⟨g, off + m * 102, none⟩)) 66 rfl rfl hcur ?_ (by intro w' hS'; unfold execOp; simp [go_sem, q0, q1])
                refine tk 4 (.pointer (some ⟨g, off + m * 102, none⟩)) 67 rfl rfl hcur ?_
                refine tk 5 (.agg dv) 68 rfl rfl hcur ?_ (by intro w' hS'; exact exec_loadM 37 (.tmp 67) rfl g (off + m * 102) rfl dv ((HS2.out w' hS').1) Tryz.underlying37 rfl HI2.out.1)
                refine tk 6 (.slice (some ⟨g, off, none⟩) n c) 69 rfl rfl hcur ?_
                refine tk 7 (.int .i64 (k : Int)) 70 rfl rfl hcur ?_
                refine tk 8 (.pointer (some ⟨g, off + k * 102, none⟩)) 71 rfl rfl hcur ?_ (by intro w' hS'; unfold execOp; simp [go_sem, q2, m1])
                refine tk 9 (.pointer (some ⟨g, off + k * 102, none⟩)) 72 rfl rfl hcur ?_
                refine tk 10 (.agg ev) 73 rfl rfl hcur ?_ (by intro w' hS'; exact exec_loadM 37 (.tmp 72) rfl g (off + k * 102) rfl ev ((HS2.out w' hS').2) Tryz.underlying37 rfl HI2.out.2)
                generalize U5.drew = V5 at hcur ⊢
                refine held_one (i := 11) (by kernel_rfl) _ rfl (wpOp_callG rfl (by rfl) 74 rfl 21 #[.agg dv, .agg ev] (by unfold execOp; simp [go_sem]) _ (ret_gro (K3.out _)) ?_)
                rintro _ U6 ⟨rfl, hn⟩
                have hcur := hcur.trans (hn.mono hcur.size)
                clear hn
                refine ⟨hcur, ?_⟩
                simp only [Act.put, List.setIfInBounds_toArray, List.set_cons_zero, List.set_cons_succ]
                refine tk 12 (.bool false) 75 rfl rfl hcur ?_
                refine held_done (by kernel_rfl) ?_
                have H6 := Lib.hid (H5.out.trans (hcur.mono H5.out.size))
                clear hcur
                go_wp2_with fail
                go_roundw
                case rel => exact ⟨k + 1, by omega, by go_num, H6.out⟩
                case measure => simp [intOf]; omega
            · have m1 : ¬ (k : Int) < (n : Int) := by omega
              have HBW := Lib.hid hbw
              clear hbw
              go_wp2_with fail
              go_ret
              exact ⟨rfl, HBW.out⟩
        | false =>
          clear hturn hsame htr hne
          go_wp2_with (first
            | (refine wpList_load_rowQ (by rfl) 37 _ rfl p rfl 37 av (0, 0) _ HLW.out.1 Tryz.underlying37 rfl HI.out.1 ?_)
            | (refine wpList_load_rowQ (by rfl) 37 _ rfl q rfl 37 bv (0, 0) _ HLW.out.2.1 Tryz.underlying37 rfl HI.out.2.1 ?_)
            | (refine wpList_load_rowQ (by rfl) 37 _ rfl r rfl 37 cv (0, 0) _ HLW.out.2.2 Tryz.underlying37 rfl HI.out.2.2 ?_))
          refine (KL.out _).2.2.1.mono ?_
          rintro e U3 ⟨rfl, hb9⟩
          have HWT := Lib.hid (H3.out.trans (hb9.mono H3.out.size))
          clear hb9 heq
          go_wp2_with fail
          go_loopw [11] (fun i V => ∃ k : Nat, 1 ≤ k ∧ i = .int .i64 k ∧ Below w.heap.size w V) (fun i _ => n - (intOf i).toNat)
          case atStart => exact ⟨1, Nat.le_refl _, by go_num, HWT.out⟩
          case round =>
            obtain ⟨k, hk1, rfl, hbw⟩ := hrel
            by_cases hlt : k < n
            · have m1 : (k : Int) < (n : Int) := by omega
              have KR := Lib.hid (rightEntries_any wr pa es c (HR.out.below hbw (Nat.le_refl _)))
              rw [← H.out.2] at KR
              obtain ⟨rb, hrb⟩ : ∃ b, b = rightEB es := ⟨_, rfl⟩
              rw [← hrb] at KR
              have HRB := Lib.hid hrb
              have HBW := Lib.hid hbw
              clear hrb hbw
              go_wp2_with fail
              refine KR.out.mono ?_
              rintro e U5 ⟨rfl, hb5⟩
              have H5 := Lib.hid (HBW.out.trans (hb5.mono HBW.out.size))
              clear hb5
              cases rb with
              | false =>
                go_wp2_with fail
                go_ret
                exact ⟨rfl, H5.out⟩
              | true =>
                obtain ⟨m, hm⟩ : ∃ m, k = m + 1 := ⟨k - 1, by omega⟩
                have hnn := H.out.2
                obtain ⟨g, off, hpa, hg, hh⟩ := HR.out.2 (by omega)
                subst hpa
                obtain ⟨d, hkd⟩ : ∃ d, es[m]? = some d := ⟨es[m]'(by omega), List.getElem?_eq_getElem _⟩
                obtain ⟨e, hke⟩ : ∃ e, es[m + 1]? = some e := ⟨es[m + 1]'(by omega), List.getElem?_eq_getElem _⟩
                have hD := hh.below H5.out hg (Nat.le_refl _) m d hkd
                have hE := hh.below H5.out hg (Nat.le_refl _) (m + 1) e hke
                have hless := right_rise HRB.out.symm hkd hke
                obtain ⟨dv, hdv⟩ : ∃ v, v = refC d.r := ⟨_, rfl⟩
                obtain ⟨ev, hev⟩ : ∃ v, v = refC e.r := ⟨_, rfl⟩
                have hg5 : g < U5.heap.size := Nat.lt_of_lt_of_le hg H5.out.size
                have K3 : Hid (∀ V, Calls Tryz.prog 21 #[.agg dv, .agg ev] V fun e w' => e = .returned (.bool true) ∧ Below V.heap.size V w') := Lib.hid fun V => by
                  have := less_any V d.r e.r hD.2.r.1 hE.2.r.1
                  rw [hless] at this
                  rw [hdv, hev]
                  exact this
                have HS2 : Hid (∀ V, Below U5.heap.size U5 V → V.rangeAt g (off + m * 102) dv.toList ∧ V.rangeAt g (off + k * 102) ev.toList) := Lib.hid fun V hV => by
                  rw [hm]
                  refine ⟨fun j v hj => ?_, fun j v hj => ?_⟩
                  · exact (hV.cell (p := ⟨g, off + m * 102 + j, none⟩) hg5).trans (hD.1 j v (enC_ref hD.2 j v (by rw [← hdv]; exact hj)))
                  · exact (hV.cell (p := ⟨g, off + (m + 1) * 102 + j, none⟩) hg5).trans (hE.1 j v (enC_ref hE.2 j v (by rw [← hev]; exact hj)))
                have HI2 := Lib.hid (And.intro (show (Tryz.prog.info? 37).map (·.size) = some dv.size by rw [hdv, refC_size _ hD.2.r.1]; exact info_ref) (show (Tryz.prog.info? 37).map (·.size) = some ev.size by rw [hev, refC_size _ hE.2.r.1]; exact info_ref))
                have hkm : IntKind.i64.wrap ((k : Int) - 1) = (m : Int) := by rw [IntKind.wrap_i64]; omega
                have q0 : (0 : Int) ≤ (m : Int) := by omega
                have q1 : (m : Int) < (n : Int) := by omega
                have q2 : (0 : Int) ≤ (k : Int) := by omega
                clear hm hnn hg hh hkd hke hD hE hless hdv hev hg5
                go_upto_region 11 with fail
                refine wp_region_held (S := Below U5.heap.size U5) (by kernel_rfl) ?_
                change wpAnyH _ _ _ _ _ 13 _ _ (World.drew U5)
                have hcur : Below U5.heap.size U5 U5.drew := (Below.refl _ _).drew
                refine tk 0 (.slice (some ⟨g, off, none⟩) n c) 63 rfl rfl hcur ?_
                refine tk 1 (.int .i64 (k : Int)) 64 rfl rfl hcur ?_
                refine tk 2 (.int .i64 (m : Int)) 65 rfl rfl hcur ?_ (by intro w' hS'; unfold execOp; simp [go_sem, hkm])
                refine tk 3 (.pointer (some ⟨g, off + m * 102, none⟩)) 66 rfl rfl hcur ?_ (by intro w' hS'; unfold execOp; simp [go_sem, q0, q1])
                refine tk 4 (.pointer (some ⟨g, off + m * 102, none⟩)) 67 rfl rfl hcur ?_
                refine tk 5 (.agg dv) 68 rfl rfl hcur ?_ (by intro w' hS'; exact exec_loadM 37 (.tmp 67) rfl g (off + m * 102) rfl dv ((HS2.out w' hS').1) Tryz.underlying37 rfl HI2.out.1)
                refine tk 6 (.slice (some ⟨g, off, none⟩) n c) 69 rfl rfl hcur ?_
                refine tk 7 (.int .i64 (k : Int)) 70 rfl rfl hcur ?_
                refine tk 8 (.pointer (some ⟨g, off + k * 102, none⟩)) 71 rfl rfl hcur ?_ (by intro w' hS'; unfold execOp; simp [go_sem, q2, m1])
                refine tk 9 (.pointer (some ⟨g, off + k * 102, none⟩)) 72 rfl rfl hcur ?_
                refine tk 10 (.agg ev) 73 rfl rfl hcur ?_ (by intro w' hS'; exact exec_loadM 37 (.tmp 72) rfl g (off + k * 102) rfl ev ((HS2.out w' hS').2) Tryz.underlying37 rfl HI2.out.2)
                generalize U5.drew = V5 at hcur ⊢
                refine held_one (i := 11) (by kernel_rfl) _ rfl (wpOp_callG rfl (by rfl) 74 rfl 21 #[.agg dv, .agg ev] (by unfold execOp; simp [go_sem]) _ (ret_gro (K3.out _)) ?_)
                rintro _ U6 ⟨rfl, hn⟩
                have hcur := hcur.trans (hn.mono hcur.size)
                clear hn
                refine ⟨hcur, ?_⟩
                simp only [Act.put, List.setIfInBounds_toArray, List.set_cons_zero, List.set_cons_succ]
                refine tk 12 (.bool false) 75 rfl rfl hcur ?_
                refine held_done (by kernel_rfl) ?_
                have H6 := Lib.hid (H5.out.trans (hcur.mono H5.out.size))
                clear hcur
                go_wp2_with fail
                go_roundw
                case rel => exact ⟨k + 1, by omega, by go_num, H6.out⟩
                case measure => simp [intOf]; omega
            · have m1 : ¬ (k : Int) < (n : Int) := by omega
              have HBW := Lib.hid hbw
              clear hbw
              go_wp2_with fail
              go_ret
              exact ⟨rfl, HBW.out⟩
    | false =>
      have HWT := H3
      cases ba with
      | true =>
        have hne : decide (ra = rb) = false := by
          rw [decide_eq_false_iff_not]
          intro e
          have := hsame.2 e
          cases this.2
        simp only [hne] at heq
        clear hturn hsame htr hne
        go_wp2_with (first
          | (refine wpList_load_rowQ (by rfl) 37 _ rfl p rfl 37 av (0, 0) _ HLW.out.1 Tryz.underlying37 rfl HI.out.1 ?_)
          | (refine wpList_load_rowQ (by rfl) 37 _ rfl q rfl 37 bv (0, 0) _ HLW.out.2.1 Tryz.underlying37 rfl HI.out.2.1 ?_)
          | (refine wpList_load_rowQ (by rfl) 37 _ rfl r rfl 37 cv (0, 0) _ HLW.out.2.2 Tryz.underlying37 rfl HI.out.2.2 ?_))
        go_loopw [11] (fun i V => ∃ k : Nat, 1 ≤ k ∧ i = .int .i64 k ∧ Below w.heap.size w V) (fun i _ => n - (intOf i).toNat)
        case atStart => exact ⟨1, Nat.le_refl _, by go_num, HWT.out⟩
        case round =>
          obtain ⟨k, hk1, rfl, hbw⟩ := hrel
          by_cases hlt : k < n
          · have m1 : (k : Int) < (n : Int) := by omega
            have KR := Lib.hid (rightEntries_any wr pa es c (HR.out.below hbw (Nat.le_refl _)))
            rw [← H.out.2] at KR
            obtain ⟨rb, hrb⟩ : ∃ b, b = rightEB es := ⟨_, rfl⟩
            rw [← hrb] at KR
            have HRB := Lib.hid hrb
            have HBW := Lib.hid hbw
            clear hrb hbw
            go_wp2_with fail
            refine KR.out.mono ?_
            rintro e U5 ⟨rfl, hb5⟩
            have H5 := Lib.hid (HBW.out.trans (hb5.mono HBW.out.size))
            clear hb5
            cases rb with
            | false =>
              go_wp2_with fail
              go_ret
              exact ⟨rfl, H5.out⟩
            | true =>
              obtain ⟨m, hm⟩ : ∃ m, k = m + 1 := ⟨k - 1, by omega⟩
              have hnn := H.out.2
              obtain ⟨g, off, hpa, hg, hh⟩ := HR.out.2 (by omega)
              subst hpa
              obtain ⟨d, hkd⟩ : ∃ d, es[m]? = some d := ⟨es[m]'(by omega), List.getElem?_eq_getElem _⟩
              obtain ⟨e, hke⟩ : ∃ e, es[m + 1]? = some e := ⟨es[m + 1]'(by omega), List.getElem?_eq_getElem _⟩
              have hD := hh.below H5.out hg (Nat.le_refl _) m d hkd
              have hE := hh.below H5.out hg (Nat.le_refl _) (m + 1) e hke
              have hless := right_rise HRB.out.symm hkd hke
              obtain ⟨dv, hdv⟩ : ∃ v, v = refC d.r := ⟨_, rfl⟩
              obtain ⟨ev, hev⟩ : ∃ v, v = refC e.r := ⟨_, rfl⟩
              have hg5 : g < U5.heap.size := Nat.lt_of_lt_of_le hg H5.out.size
              have K3 : Hid (∀ V, Calls Tryz.prog 21 #[.agg dv, .agg ev] V fun e w' => e = .returned (.bool true) ∧ Below V.heap.size V w') := Lib.hid fun V => by
                have := less_any V d.r e.r hD.2.r.1 hE.2.r.1
                rw [hless] at this
                rw [hdv, hev]
                exact this
              have HS2 : Hid (∀ V, Below U5.heap.size U5 V → V.rangeAt g (off + m * 102) dv.toList ∧ V.rangeAt g (off + k * 102) ev.toList) := Lib.hid fun V hV => by
                rw [hm]
                refine ⟨fun j v hj => ?_, fun j v hj => ?_⟩
                · exact (hV.cell (p := ⟨g, off + m * 102 + j, none⟩) hg5).trans (hD.1 j v (enC_ref hD.2 j v (by rw [← hdv]; exact hj)))
                · exact (hV.cell (p := ⟨g, off + (m + 1) * 102 + j, none⟩) hg5).trans (hE.1 j v (enC_ref hE.2 j v (by rw [← hev]; exact hj)))
              have HI2 := Lib.hid (And.intro (show (Tryz.prog.info? 37).map (·.size) = some dv.size by rw [hdv, refC_size _ hD.2.r.1]; exact info_ref) (show (Tryz.prog.info? 37).map (·.size) = some ev.size by rw [hev, refC_size _ hE.2.r.1]; exact info_ref))
              have hkm : IntKind.i64.wrap ((k : Int) - 1) = (m : Int) := by rw [IntKind.wrap_i64]; omega
              have q0 : (0 : Int) ≤ (m : Int) := by omega
              have q1 : (m : Int) < (n : Int) := by omega
              have q2 : (0 : Int) ≤ (k : Int) := by omega
              clear hm hnn hg hh hkd hke hD hE hless hdv hev hg5
              go_upto_region 11 with fail
              refine wp_region_held (S := Below U5.heap.size U5) (by kernel_rfl) ?_
              change wpAnyH _ _ _ _ _ 13 _ _ (World.drew U5)
              have hcur : Below U5.heap.size U5 U5.drew := (Below.refl _ _).drew
              refine tk 0 (.slice (some ⟨g, off, none⟩) n c) 63 rfl rfl hcur ?_
              refine tk 1 (.int .i64 (k : Int)) 64 rfl rfl hcur ?_
              refine tk 2 (.int .i64 (m : Int)) 65 rfl rfl hcur ?_ (by intro w' hS'; unfold execOp; simp [go_sem, hkm])
              refine tk 3 (.pointer (some ⟨g, off + m * 102, none⟩)) 66 rfl rfl hcur ?_ (by intro w' hS'; unfold execOp; simp [go_sem, q0, q1])
              refine tk 4 (.pointer (some ⟨g, off + m * 102, none⟩)) 67 rfl rfl hcur ?_
              refine tk 5 (.agg dv) 68 rfl rfl hcur ?_ (by intro w' hS'; exact exec_loadM 37 (.tmp 67) rfl g (off + m * 102) rfl dv ((HS2.out w' hS').1) Tryz.underlying37 rfl HI2.out.1)
              refine tk 6 (.slice (some ⟨g, off, none⟩) n c) 69 rfl rfl hcur ?_
              refine tk 7 (.int .i64 (k : Int)) 70 rfl rfl hcur ?_
              refine tk 8 (.pointer (some ⟨g, off + k * 102, none⟩)) 71 rfl rfl hcur ?_ (by intro w' hS'; unfold execOp; simp [go_sem, q2, m1])
              refine tk 9 (.pointer (some ⟨g, off + k * 102, none⟩)) 72 rfl rfl hcur ?_
              refine tk 10 (.agg ev) 73 rfl rfl hcur ?_ (by intro w' hS'; exact exec_loadM 37 (.tmp 72) rfl g (off + k * 102) rfl ev ((HS2.out w' hS').2) Tryz.underlying37 rfl HI2.out.2)
              generalize U5.drew = V5 at hcur ⊢
              refine held_one (i := 11) (by kernel_rfl) _ rfl (wpOp_callG rfl (by rfl) 74 rfl 21 #[.agg dv, .agg ev] (by unfold execOp; simp [go_sem]) _ (ret_gro (K3.out _)) ?_)
              rintro _ U6 ⟨rfl, hn⟩
              have hcur := hcur.trans (hn.mono hcur.size)
              clear hn
              refine ⟨hcur, ?_⟩
              simp only [Act.put, List.setIfInBounds_toArray, List.set_cons_zero, List.set_cons_succ]
              refine tk 12 (.bool false) 75 rfl rfl hcur ?_
              refine held_done (by kernel_rfl) ?_
              have H6 := Lib.hid (H5.out.trans (hcur.mono H5.out.size))
              clear hcur
              go_wp2_with fail
              go_roundw
              case rel => exact ⟨k + 1, by omega, by go_num, H6.out⟩
              case measure => simp [intOf]; omega
          · have m1 : ¬ (k : Int) < (n : Int) := by omega
            have HBW := Lib.hid hbw
            clear hbw
            go_wp2_with fail
            go_ret
            exact ⟨rfl, HBW.out⟩
      | false =>
        have hne : decide (ra = rb) = true := decide_eq_true (hsame.1 ⟨rfl, rfl⟩)
        simp only [hne] at heq
        clear hturn hsame htr hne
        go_wp2_with (first
          | (refine wpList_load_rowQ (by rfl) 37 _ rfl p rfl 37 av (0, 0) _ HLW.out.1 Tryz.underlying37 rfl HI.out.1 ?_)
          | (refine wpList_load_rowQ (by rfl) 37 _ rfl q rfl 37 bv (0, 0) _ HLW.out.2.1 Tryz.underlying37 rfl HI.out.2.1 ?_)
          | (refine wpList_load_rowQ (by rfl) 37 _ rfl r rfl 37 cv (0, 0) _ HLW.out.2.2 Tryz.underlying37 rfl HI.out.2.2 ?_))
        go_loopw [11] (fun i V => ∃ k : Nat, 1 ≤ k ∧ i = .int .i64 k ∧ Below w.heap.size w V) (fun i _ => n - (intOf i).toNat)
        case atStart => exact ⟨1, Nat.le_refl _, by go_num, HWT.out⟩
        case round =>
          obtain ⟨k, hk1, rfl, hbw⟩ := hrel
          by_cases hlt : k < n
          · have m1 : (k : Int) < (n : Int) := by omega
            have KR := Lib.hid (rightEntries_any wr pa es c (HR.out.below hbw (Nat.le_refl _)))
            rw [← H.out.2] at KR
            obtain ⟨rb, hrb⟩ : ∃ b, b = rightEB es := ⟨_, rfl⟩
            rw [← hrb] at KR
            have HRB := Lib.hid hrb
            have HBW := Lib.hid hbw
            clear hrb hbw
            go_wp2_with fail
            refine KR.out.mono ?_
            rintro e U5 ⟨rfl, hb5⟩
            have H5 := Lib.hid (HBW.out.trans (hb5.mono HBW.out.size))
            clear hb5
            cases rb with
            | false =>
              go_wp2_with fail
              go_ret
              exact ⟨rfl, H5.out⟩
            | true =>
              obtain ⟨m, hm⟩ : ∃ m, k = m + 1 := ⟨k - 1, by omega⟩
              have hnn := H.out.2
              obtain ⟨g, off, hpa, hg, hh⟩ := HR.out.2 (by omega)
              subst hpa
              obtain ⟨d, hkd⟩ : ∃ d, es[m]? = some d := ⟨es[m]'(by omega), List.getElem?_eq_getElem _⟩
              obtain ⟨e, hke⟩ : ∃ e, es[m + 1]? = some e := ⟨es[m + 1]'(by omega), List.getElem?_eq_getElem _⟩
              have hD := hh.below H5.out hg (Nat.le_refl _) m d hkd
              have hE := hh.below H5.out hg (Nat.le_refl _) (m + 1) e hke
              have hless := right_rise HRB.out.symm hkd hke
              obtain ⟨dv, hdv⟩ : ∃ v, v = refC d.r := ⟨_, rfl⟩
              obtain ⟨ev, hev⟩ : ∃ v, v = refC e.r := ⟨_, rfl⟩
              have hg5 : g < U5.heap.size := Nat.lt_of_lt_of_le hg H5.out.size
              have K3 : Hid (∀ V, Calls Tryz.prog 21 #[.agg dv, .agg ev] V fun e w' => e = .returned (.bool true) ∧ Below V.heap.size V w') := Lib.hid fun V => by
                have := less_any V d.r e.r hD.2.r.1 hE.2.r.1
                rw [hless] at this
                rw [hdv, hev]
                exact this
              have HS2 : Hid (∀ V, Below U5.heap.size U5 V → V.rangeAt g (off + m * 102) dv.toList ∧ V.rangeAt g (off + k * 102) ev.toList) := Lib.hid fun V hV => by
                rw [hm]
                refine ⟨fun j v hj => ?_, fun j v hj => ?_⟩
                · exact (hV.cell (p := ⟨g, off + m * 102 + j, none⟩) hg5).trans (hD.1 j v (enC_ref hD.2 j v (by rw [← hdv]; exact hj)))
                · exact (hV.cell (p := ⟨g, off + (m + 1) * 102 + j, none⟩) hg5).trans (hE.1 j v (enC_ref hE.2 j v (by rw [← hev]; exact hj)))
              have HI2 := Lib.hid (And.intro (show (Tryz.prog.info? 37).map (·.size) = some dv.size by rw [hdv, refC_size _ hD.2.r.1]; exact info_ref) (show (Tryz.prog.info? 37).map (·.size) = some ev.size by rw [hev, refC_size _ hE.2.r.1]; exact info_ref))
              have hkm : IntKind.i64.wrap ((k : Int) - 1) = (m : Int) := by rw [IntKind.wrap_i64]; omega
              have q0 : (0 : Int) ≤ (m : Int) := by omega
              have q1 : (m : Int) < (n : Int) := by omega
              have q2 : (0 : Int) ≤ (k : Int) := by omega
              clear hm hnn hg hh hkd hke hD hE hless hdv hev hg5
              go_upto_region 11 with fail
              refine wp_region_held (S := Below U5.heap.size U5) (by kernel_rfl) ?_
              change wpAnyH _ _ _ _ _ 13 _ _ (World.drew U5)
              have hcur : Below U5.heap.size U5 U5.drew := (Below.refl _ _).drew
              refine tk 0 (.slice (some ⟨g, off, none⟩) n c) 63 rfl rfl hcur ?_
              refine tk 1 (.int .i64 (k : Int)) 64 rfl rfl hcur ?_
              refine tk 2 (.int .i64 (m : Int)) 65 rfl rfl hcur ?_ (by intro w' hS'; unfold execOp; simp [go_sem, hkm])
              refine tk 3 (.pointer (some ⟨g, off + m * 102, none⟩)) 66 rfl rfl hcur ?_ (by intro w' hS'; unfold execOp; simp [go_sem, q0, q1])
              refine tk 4 (.pointer (some ⟨g, off + m * 102, none⟩)) 67 rfl rfl hcur ?_
              refine tk 5 (.agg dv) 68 rfl rfl hcur ?_ (by intro w' hS'; exact exec_loadM 37 (.tmp 67) rfl g (off + m * 102) rfl dv ((HS2.out w' hS').1) Tryz.underlying37 rfl HI2.out.1)
              refine tk 6 (.slice (some ⟨g, off, none⟩) n c) 69 rfl rfl hcur ?_
              refine tk 7 (.int .i64 (k : Int)) 70 rfl rfl hcur ?_
              refine tk 8 (.pointer (some ⟨g, off + k * 102, none⟩)) 71 rfl rfl hcur ?_ (by intro w' hS'; unfold execOp; simp [go_sem, q2, m1])
              refine tk 9 (.pointer (some ⟨g, off + k * 102, none⟩)) 72 rfl rfl hcur ?_
              refine tk 10 (.agg ev) 73 rfl rfl hcur ?_ (by intro w' hS'; exact exec_loadM 37 (.tmp 72) rfl g (off + k * 102) rfl ev ((HS2.out w' hS').2) Tryz.underlying37 rfl HI2.out.2)
              generalize U5.drew = V5 at hcur ⊢
              refine held_one (i := 11) (by kernel_rfl) _ rfl (wpOp_callG rfl (by rfl) 74 rfl 21 #[.agg dv, .agg ev] (by unfold execOp; simp [go_sem]) _ (ret_gro (K3.out _)) ?_)
              rintro _ U6 ⟨rfl, hn⟩
              have hcur := hcur.trans (hn.mono hcur.size)
              clear hn
              refine ⟨hcur, ?_⟩
              simp only [Act.put, List.setIfInBounds_toArray, List.set_cons_zero, List.set_cons_succ]
              refine tk 12 (.bool false) 75 rfl rfl hcur ?_
              refine held_done (by kernel_rfl) ?_
              have H6 := Lib.hid (H5.out.trans (hcur.mono H5.out.size))
              clear hcur
              go_wp2_with fail
              go_roundw
              case rel => exact ⟨k + 1, by omega, by go_num, H6.out⟩
              case measure => simp [intOf]; omega
          · have m1 : ¬ (k : Int) < (n : Int) := by omega
            have HBW := Lib.hid hbw
            clear hbw
            go_wp2_with fail
            go_ret
            exact ⟨rfl, HBW.out⟩
end Go.Proofs.YtilbbemdinpjcaaGreat.P
