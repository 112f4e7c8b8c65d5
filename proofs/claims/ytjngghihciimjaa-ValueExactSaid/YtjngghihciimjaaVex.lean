/-
  Exact sums hang on no order: the law's walk.
-/
import Derived.Test.YtjngghihciimjaaVeo
namespace Go.Proofs.Ytjngghihciimjaa
set_option maxRecDepth 100000
open Go.RowKit Go.Sort Go.Maps

set_option maxHeartbeats 16000000 in
theorem exact_any (w : World) (pi : Option Addr) (vs : List Va) (ci : Nat) (pm : Option Addr) (ml : List As) (cm : Nat) (po : Option Addr) (us : List Va) (co : Nat) (fee : Int) (m : Va)
    (hv : RowV w pi vs) (hm : Row w pm ml) (hu : RowV w po us) (f0 : -9223372036854775808 ≤ fee) (f1 : fee < 9223372036854775808) (hmo : VaOk w m) (hci : pi = none → ci = 0) (hco : po = none → co = 0) (hru : ∀ u, u ∈ us → u.pa = none → u.c = 0) :
    Calls Try.prog 4 #[.slice pi vs.length ci, .slice pm ml.length cm, .slice po us.length co, .int .i64 fee, .agg #[.int .i64 m.coin, .slice m.pa m.l.length m.c]] w fun e w' => e = .returned (.bool true) ∧ Below w.heap.size w w' := by
  have hb0 : Below w.heap.size w (w.alloc (.cells #[.int .i64 m.coin, .slice m.pa m.l.length m.c] 24)) := (Below.refl _ _).alloc (Nat.le_refl _) _
  have hE0 : ExIn (w.alloc (.cells #[.int .i64 m.coin, .slice m.pa m.l.length m.c] 24)) w.heap.size pi vs pm ml po us m := ⟨hv.below hb0 (Nat.le_refl _), hm.below hb0 (Nat.le_refl _), hu.below hb0 (Nat.le_refl _), hmo.below hb0 (Nat.le_refl _), Lies.new _ _ _⟩
  have haw := awake_any (w.alloc (.cells #[.int .i64 m.coin, .slice m.pa m.l.length m.c] 24))
  have HAW := Lib.hid (And.intro haw (And.intro hE0 hb0))
  have HN := Lib.hid (And.intro f0 (And.intro f1 (And.intro hci (And.intro hco hru))))
  clear haw hE0 hb0 hv hm hu f0 f1 hmo hci hco hru
  go_enter Try.func4, Try.ntmps4
  go_wp2_with fail
  refine HAW.out.1.mono ?_
  rintro e W ⟨rfl, hb⟩
  have hE := HAW.out.2.1.below hb
  have hbw := HAW.out.2.2.trans (hb.mono HAW.out.2.2.size)
  have q0 := hE.box.cell 0 (v := .int .i64 m.coin) rfl
  have q1 := hE.box.cell 1 (v := .slice m.pa m.l.length m.c) rfl
  have hbg : Below W.heap.size W ((W.alloc (.cells #[.int .i64 0, .slice pm ml.length cm, .int .i64 m.coin, .slice m.pa m.l.length m.c] 24)).alloc (.cells #[.slice pi vs.length ci, .slice po us.length co, .slice (some ⟨W.heap.size, 0, none⟩) 2 2] 29)) := ((Below.refl _ _).alloc (Nat.le_refl _) _).alloc (by simp) _
  have hgr := greatX_any _ (some ⟨W.heap.size + 1, 0, none⟩) [⟨pi, vs, ci⟩, ⟨po, us, co⟩, ⟨some ⟨W.heap.size, 0, none⟩, [⟨0, pm, ml, cm⟩, m], 2⟩] 3 (great_row W hE ci cm co) (show 3 ≤ 10 by decide)
  have HG := Lib.hid (And.intro hgr (And.intro hbg (And.intro hE hbw)))
  clear hb hE hbw hbg hgr HAW
  go_wp2_with fail
  refine HG.out.1.mono ?_
  rintro e W2 ⟨⟨gb, rfl, hgb⟩, hb⟩
  have hb2 := HG.out.2.1.trans (hb.mono HG.out.2.1.size)
  have hE := HG.out.2.2.1.below hb2
  have hbw := HG.out.2.2.2.trans (hb2.mono HG.out.2.2.2.size)
  cases gb with
  | true =>
    have HE := Lib.hid hbw
    clear hgb hb hb2 hE hbw q0 q1
    go_wp2_with fail
    go_ret
    exact ⟨rfl, HE.out⟩
  | false =>
    have HF := Lib.hid (few_all HG.out.2.2.1 (hgb rfl))
    have hs5 := sums_few W2 pi vs ci hE.vin HF.out.v
    have HS := Lib.hid (And.intro hs5 (And.intro hE hbw))
    clear hgb hb hb2 hE hbw q0 q1 hs5 HG
    go_wp2_with fail
    refine HS.out.1.mono ?_
    rintro e W3 ⟨⟨pt, lt, ct, rfl, hrt, htt, -⟩, hb⟩
    have hE := HS.out.2.1.below hb
    have hbw := HS.out.2.2.trans (hb.mono HS.out.2.2.size)
    obtain ⟨X, hX⟩ : ∃ x, x = coinS vs := ⟨_, rfl⟩
    rw [← hX]
    have HT := Lib.hid (And.intro hX htt)
    have HE := Lib.hid (And.intro hE (And.intro hbw hrt))
    clear hb hE hbw hX htt hrt HS
    unfold wv
    go_upto_region 6 with fail
    have hb4 : Below W3.heap.size W3 (W3.alloc (.cells #[.int .i64 (hiS X), .int .u64 (loN X)] 39)) := (Below.refl _ _).alloc (Nat.le_refl _) _
    have hL11 : Lies (W3.alloc (.cells #[.int .i64 (hiS X), .int .u64 (loN X)] 39)) W3.heap.size #[.int .i64 (hiS X), .int .u64 (loN X)] 39 := Lies.new _ _ _
    generalize W3.alloc (.cells #[.int .i64 (hiS X), .int .u64 (loN X)] 39) = Wb at hb4 hL11 ⊢
    obtain ⟨b11, hb11⟩ : ∃ b, b = W3.heap.size := ⟨_, rfl⟩
    rw [← hb11] at hL11 ⊢
    have hE := HE.out.1.below hb4
    have hbw := HE.out.2.1.trans (hb4.mono HE.out.2.1.size)
    have hrt := HE.out.2.2.below hb4 (Nat.le_refl _)
    have HB := Lib.hid (And.intro hE (And.intro hbw (And.intro hrt hL11)))
    clear hb4 hE hbw hrt hL11 hb11 HE
    have hw0 : IntKind.i64.wrap ((vs.length : Int) - 1) = (vs.length : Int) - 1 := by
      have := HF.out.vl
      rw [IntKind.wrap_i64]; omega
    have HL0 := Lib.hid (loop_start Wb)
    go_wp2_with fail
    go_loopw [13, 15, 16] (fun s r i W => ∃ (n : Nat) (z : Int) (bk : List Va) (rs : List Tr) (S : BitVec 128), i = .int .i64 z ∧ z = (n : Int) - 1 ∧ LoopR vs n bk rs S ∧ ExLoop Wb W S s r bk rs) (fun _ _ i _ => (intOf i + 1).toNat)
    case atStart => exact ⟨vs.length, _, [], [], 0, rfl, rfl, LoopR.start vs, HL0.out⟩
    case round =>
      obtain ⟨n, z, bk, rs, S, rfl, hz, hR, hX⟩ := hrel
      cases n with
      | succ k =>
        have hz2 : z = (k : Int) := by rw [hz]; omega
        subst hz2
        clear hz
        have m0 : (0 : Int) ≤ (k : Int) := by omega
        have hlt : k < vs.length := hR.le
        have m1 : (k : Int) < (vs.length : Int) := by omega
        have hw1 : IntKind.i64.wrap ((k : Int) - 1) = (k : Int) - 1 := by
          have := HF.out.vl
          rw [IntKind.wrap_i64]; omega
        obtain ⟨g, off, rfl, hg, hh⟩ := HB.out.1.vin.2 (by omega)
        obtain ⟨v, hv⟩ : ∃ v, v = vs[k] := ⟨_, rfl⟩
        have hkv : vs[k]? = some v := by rw [hv, List.getElem?_eq_getElem hlt]
        have hfv : FewA v.l := HF.out.v.2 v (List.mem_of_getElem? hkv)
        have hcl : ∀ U, Below Wb.heap.size Wb U → U.cell? ⟨g, off + k * 2, none⟩ = some (.int .i64 v.coin) ∧ U.cell? ⟨g, off + k * 2 + 1, none⟩ = some (.slice v.pa v.l.length v.c) ∧ VaOk U v := fun U hU => by
          have h := hh.below hU hg (Nat.le_refl _) k v hkv
          have h0 := h.1 0 (.int .i64 v.coin) rfl
          rw [Nat.add_zero] at h0
          exact ⟨h0, h.1 1 (.slice v.pa v.l.length v.c) rfl, h.2⟩
        obtain ⟨i0, z0, hi0, hz0, hz1, hz2, hz3⟩ := info_parts info24
        obtain ⟨i1, z1, hi1, hy0, hy1, hy2, hy3⟩ := info_parts info40
        have HI := Lib.hid (And.intro hi0 (And.intro hz0 (And.intro hz1 (And.intro hz2 hz3))))
        have HJ := Lib.hid (And.intro hi1 (And.intro hy0 (And.intro hy1 (And.intro hy2 hy3))))
        obtain ⟨c0, c1, hvo⟩ := hcl wr hX.below
        have hb1 : Below wr.heap.size wr (wr.alloc (.cells #[.int .i64 v.coin, .slice v.pa v.l.length v.c] 24)) := (Below.refl _ _).alloc (Nat.le_refl _) _
        have hX1 := hX.step hb1
        have hsrc := src_one vaC (a := v) (Lies.new wr #[.int .i64 v.coin, .slice v.pa v.l.length v.c] 24)
        have hbl : bk.length ≤ 200 := by
          have h1 := congrArg List.length hR.eqb
          rw [List.length_reverse, List.length_drop] at h1
          have h2 := HF.out.vl
          omega
        have HV := Lib.hid (And.intro hkv (And.intro hfv (And.intro hcl (And.intro hR hbl))))
        have HX := Lib.hid (And.intro hX1 hsrc)
        clear hi0 hz0 hz1 hz2 hz3 hi1 hy0 hy1 hy2 hy3 hvo hb1 hX hX1 hsrc hbl hh hg hv hkv hfv hcl hR hlt
        go_upto_region 13 with (at_builtin; go_must (refine wpList_append_own_at _ rfl _ _ 29 rfl (Wb.heap.size + 1) 24 i0 z0 2 32 Try.underlying29 HI.out.1 HI.out.2.1 HI.out.2.2.1 HI.out.2.2.2.1 HI.out.2.2.2.2 (by decide) _ bk.length _ rfl HX.out.1.back ⟨wr.heap.size, 0, none⟩ 1 1 (cellsF vaC [v]) rfl (cellsF_len vaC 2 _ fun a _ => vaC_size a) HX.out.2 (cellsF_one vaC _ fun a _ => vaC_one a) (by have := HV.out.2.2.2.2; unfold maxLen; omega) (by have := HV.out.2.2.2.2; omega) (by have := HX.out.1.sum.lt; omega) ?_; intro v' w1 hown' hgrow _ hat))
        have hX2 : ExLoop Wb w1 S v' u15 (bk ++ [v]) rs := HX.out.1.backed (by unfold OwnVs; rw [cellsF_app, List.length_append]; exact hown') hgrow hat
        obtain ⟨c2, c3, hvo⟩ := HV.out.2.2.1 w1 hX2.below
        have hb2 : Below w1.heap.size w1 (w1.alloc (.cells #[.int .i64 v.coin, .slice v.pa v.l.length v.c] 24)) := (Below.refl _ _).alloc (Nat.le_refl _) _
        have hs13 := sums_few _ _ [v] 1 (one_row_v w1 v hvo) (FewV.one HV.out.2.1)
        have HX2 := Lib.hid (And.intro hX2 (And.intro hb2 hs13))
        clear hX2 hb2 hs13 hvo hown' hgrow hat c0 c1 HX
        go_wp2_with fail
        refine HX2.out.2.2.mono ?_
        rintro e W4 ⟨⟨px, lx, cx, rfl, hrx, htx, hfx⟩, hb4⟩
        have hb24 := HX2.out.2.1.trans (hb4.mono HX2.out.2.1.size)
        have hX4 := HX2.out.1.step hb24
        have hpx : Pend W4 Wb.heap.size v' u15 ⟨px, lx, cx⟩ := pend_new HX2.out.1.back HX2.out.1.rows HX2.out.1.sum.lt hrx (fun a e => Nat.le_trans HX2.out.2.1.size (hfx a e))
        have htx2 : IsTot (Fw v) (ctT lx) := htx.congr fun n => (Fw_one v n).symm
        obtain ⟨cv, hcv⟩ : ∃ x, x = coinS [v] := ⟨_, rfl⟩
        rw [← hcv]
        have HX4 := Lib.hid (And.intro hX4 (And.intro hpx (And.intro htx2 hcv)))
        clear hb24 hX4 hpx htx2 hcv hrx htx hfx hb4 c2 c3 HX2
        unfold wv
        go_upto_region 14 with fail
        have hb5 : Below W4.heap.size W4 (W4.alloc (.cells #[.int .i64 (hiS cv), .int .u64 (loN cv)] 39)) := (Below.refl _ _).alloc (Nat.le_refl _) _
        have hL5 : Lies (W4.alloc (.cells #[.int .i64 (hiS cv), .int .u64 (loN cv)] 39)) W4.heap.size #[.int .i64 (hiS cv), .int .u64 (loN cv)] 39 := Lies.new _ _ _
        generalize W4.alloc (.cells #[.int .i64 (hiS cv), .int .u64 (loN cv)] 39) = W5 at hb5 hL5 ⊢
        have hX5 := HX4.out.1.step hb5
        have hp5 := HX4.out.2.1.step hb5
        have d0 := hL5.cell 0 (v := .int .i64 (hiS cv)) rfl
        have d1 := hL5.cell 1 (v := .int .u64 (loN cv)) rfl
        have d2 := hX5.sum.cell 0 (v := .int .i64 (hiS S)) rfl
        have d3 := hX5.sum.cell 1 (v := .int .u64 (loN S)) rfl
        have hb6 : Below W5.heap.size W5 (W5.alloc (.cells #[.int .i64 (hiS cv), .int .u64 (loN cv), .int .i64 (hiS S), .int .u64 (loN S)] 39)) := (Below.refl _ _).alloc (Nat.le_refl _) _
        have hpl := plus_two _ W5.heap.size cv S (Lies.new W5 #[.int .i64 (hiS cv), .int .u64 (loN cv), .int .i64 (hiS S), .int .u64 (loN S)] 39)
        have HX5 := Lib.hid (And.intro hX5 (And.intro hp5 (And.intro hb6 hpl)))
        clear hX5 hp5 hb6 hpl hb5 hL5
        go_wp2_with fail
        refine HX5.out.2.2.2.mono ?_
        rintro e W7 ⟨rfl, hb7⟩
        have hb57 := HX5.out.2.2.1.trans (hb7.mono HX5.out.2.2.1.size)
        have hX7 := HX5.out.1.step hb57
        have hp7 := HX5.out.2.1.step hb57
        have d4 := hX7.sum.cell 0 (v := .int .i64 (hiS S)) rfl
        have d5 := hX7.sum.cell 1 (v := .int .u64 (loN S)) rfl
        have d6 := hX7.sum.free 0
        have d7 := hX7.sum.free 1
        obtain ⟨T, hT⟩ : ∃ x, x = cv + S := ⟨_, rfl⟩
        rw [← hT]
        have HX7 := Lib.hid (And.intro hX7 (And.intro hp7 hT))
        clear hb57 hX7 hp7 hT hb7 d0 d1 d2 d3 HX5
        unfold wv
        go_upto_region 15 with fail
        have hX8 := HX7.out.1.summed (T := T)
        have hp8 := HX7.out.2.1.set2 0 1 (.int .i64 (hiS T)) (.int .u64 (loN T))
        clear d4 d5 d6 d7
        generalize (W7.setCell ⟨Wb.heap.size, 0, none⟩ (.int .i64 (hiS T))).setCell ⟨Wb.heap.size, 1, none⟩ (.int .u64 (loN T)) = W8 at hX8 hp8 ⊢
        have hb9 : Below W8.heap.size W8 (W8.alloc (.cells #[.slice px lx.length cx] 40)) := (Below.refl _ _).alloc (Nat.le_refl _) _
        have hX9 := hX8.step hb9
        have hp9 := hp8.step hb9
        have hsrc := src_one trC (a := ⟨px, lx, cx⟩) (Lies.new W8 #[.slice px lx.length cx] 40)
        have hrl : rs.length ≤ 200 := by
          have h1 := HV.out.2.2.2.1.tots.1
          have h2 := HV.out.2.2.2.2
          omega
        have HX9 := Lib.hid (And.intro hX9 (And.intro hp9 (And.intro hsrc hrl)))
        clear hX8 hp8 hb9 hX9 hp9 hsrc hrl
        go_wp2_with (at_builtin; go_must (refine wpList_append_own_at _ rfl _ _ 43 rfl (Wb.heap.size + 1) 40 i1 z1 1 24 Try.underlying43 HJ.out.1 HJ.out.2.1 HJ.out.2.2.1 HJ.out.2.2.2.1 HJ.out.2.2.2.2 (by decide) _ rs.length _ rfl HX9.out.1.rows ⟨W8.heap.size, 0, none⟩ 1 1 (cellsF trC [⟨px, lx, cx⟩]) rfl (cellsF_len trC 1 _ fun a _ => rfl) HX9.out.2.2.1 (cellsF_one trC _ fun a _ => by simp [trC, Value.oneCell']) (by have := HX9.out.2.2.2; unfold maxLen; omega) (by have := HX9.out.2.2.2; omega) (by have := HX9.out.1.sum.lt; omega) ?_; intro r' w10 hown' hgrow _ hat))
        have hX10 : ExLoop Wb w10 T v' r' (bk ++ [v]) (rs ++ [⟨px, lx, cx⟩]) := HX9.out.1.rowed HX9.out.2.1 (by unfold OwnRs; rw [cellsF_app, List.length_append]; exact hown') hgrow hat
        have hR' : LoopR vs k (bk ++ [v]) (rs ++ [⟨px, lx, cx⟩]) T := by
          rw [HX7.out.2.2, HX4.out.2.2.2]
          exact HV.out.2.2.2.1.next HV.out.1 HX4.out.2.2.1
        refine ⟨⟨k, _, bk ++ [v], rs ++ [⟨px, lx, cx⟩], T, rfl, rfl, hR', hX10⟩, ?_⟩
        show ((k : Int) - 1 + 1).toNat < ((k : Int) + 1).toNat
        omega
      | zero =>
        have hz2 : z = -1 := by rw [hz]; rfl
        subst hz2
        clear hz
        obtain ⟨hpm, hS, htt⟩ := hR.done
        have hfb : FewV bk := HF.out.v.of_perm hpm
        have hE := HB.out.1.below hX.below
        obtain ⟨pb, cb, rfl, hrb, hcb⟩ := hX.back.rowC (fun a ha => hE.vin.ok a (hpm.mem_iff.2 ha)) (Nat.le_trans hfb.1 (by decide))
        obtain ⟨pr, cr, rfl, hrr⟩ := hX.rows.row (fun x hx => (hX.each x hx).1) (by rw [htt.1]; exact Nat.le_trans hfb.1 (by decide))
        have hbk : bk.length = vs.length := hpm.length_eq.symm
        have hSX : S = X := by rw [hS, HT.out.1]
        subst hSX
        have hcb2 : coinS bk = S := by rw [hS]; exact (coinS_perm hpm).symm
        have htb : IsTot (sumAt (ctsL bk)) (ctT lt) := HT.out.2.congr fun n => ctsL_perm hpm n
        have hs16 := sums_few wr pb bk cb hrb hfb
        have hrt := HB.out.2.2.1.below hX.below (Nat.le_refl _)
        have hL11 := HB.out.2.2.2.below hX.below HB.out.2.2.2.lt
        have HM := Lib.hid (And.intro hfb (And.intro htt (And.intro hcb2 htb)))
        have hbw := HB.out.2.1.trans (hX.below.mono HB.out.2.1.size)
        have HX := Lib.hid (And.intro hE (And.intro hrr (And.intro hs16 (And.intro hrt (And.intro hL11 (And.intro hX.sum hbw))))))
        clear hE hrr hs16 hrt hL11 hbw hX hR hpm hS htt hfb hrb hcb hbk hcb2 htb
        go_wp2_with fail
        refine HX.out.2.2.1.mono ?_
        rintro e W1 ⟨⟨p6, l6, c6, rfl, hr6, ht6, -⟩, hb⟩
        obtain rfl := tot_eq ht6 HM.out.2.2.2 fun _ => rfl
        rw [HM.out.2.2.1]
        have hE := HX.out.1.below hb
        have hrr := HX.out.2.1.below hb (Nat.le_refl _)
        have hrt := HX.out.2.2.2.1.below hb (Nat.le_refl _)
        have hL11 := HX.out.2.2.2.2.1.below hb HX.out.2.2.2.2.1.lt
        have hL14 := HX.out.2.2.2.2.2.1.below hb HX.out.2.2.2.2.2.1.lt
        have hbw := HX.out.2.2.2.2.2.2.trans (hb.mono HX.out.2.2.2.2.2.2.size)
        have HY := Lib.hid (And.intro hE (And.intro hrr (And.intro hrt (And.intro hL11 (And.intro hL14 (And.intro hbw hr6))))))
        clear hE hrr hrt hL11 hL14 hbw hr6 ht6 hb HX
        unfold wv
        go_upto_region 17 with fail
        have hb : Below W1.heap.size W1 (W1.alloc (.cells #[.int .i64 (hiS S), .int .u64 (loN S)] 39)) := (Below.refl _ _).alloc (Nat.le_refl _) _
        have hL19 : Lies (W1.alloc (.cells #[.int .i64 (hiS S), .int .u64 (loN S)] 39)) W1.heap.size #[.int .i64 (hiS S), .int .u64 (loN S)] 39 := Lies.new _ _ _
        generalize W1.alloc (.cells #[.int .i64 (hiS S), .int .u64 (loN S)] 39) = W2' at hb hL19 ⊢
        have hE := HY.out.1.below hb
        have hrr := HY.out.2.1.below hb (Nat.le_refl _)
        have hrt := HY.out.2.2.1.below hb (Nat.le_refl _)
        have hL11 := HY.out.2.2.2.1.below hb HY.out.2.2.2.1.lt
        have hL14 := HY.out.2.2.2.2.1.below hb HY.out.2.2.2.2.1.lt
        have hbw := HY.out.2.2.2.2.2.1.trans (hb.mono HY.out.2.2.2.2.2.1.size)
        have hr6 := HY.out.2.2.2.2.2.2.below hb (Nat.le_refl _)
        have c0 := hL19.cell 0 (v := .int .i64 (hiS S)) rfl
        have c1 := hL19.cell 1 (v := .int .u64 (loN S)) rfl
        have c2 := hL11.cell 0 (v := .int .i64 (hiS S)) rfl
        have c3 := hL11.cell 1 (v := .int .u64 (loN S)) rfl
        have c4 := hL14.cell 0 (v := .int .i64 (hiS S)) rfl
        have c5 := hL14.cell 1 (v := .int .u64 (loN S)) rfl
        have heq : ∀ W, (Op.equalIn 10000 39 (.agg #[.int .i64 (hiS S), .int .u64 (loN S)]) (.agg #[.int .i64 (hiS S), .int .u64 (loN S)])).run Try.prog W = .ok true W := fun W => by
          have := eq_w W S S
          rw [decide_eq_true rfl] at this
          exact this
        have k1 : ∀ U, Below W2'.heap.size W2' U → Calls Try.prog 15 #[.slice p6 l6.length c6, .slice pt l6.length ct] U fun e w' => e = .returned (.bool true) ∧ Below U.heap.size U w' := fun U hU => same_tots U _ _ _ _ _ (hr6.below hU (Nat.le_refl _)) (hrt.below hU (Nat.le_refl _))
        have k2 : ∀ U, Below W2'.heap.size W2' U → Calls Try.prog 16 #[.slice pr rs.length cr] U fun e w' => TotRet l6 U w' e := fun U hU => merge_tots U pr rs cr bk l6 (hrr.below hU (Nat.le_refl _)) HM.out.2.1 HM.out.1 HM.out.2.2.2
        have k3 : ∀ U p c, Below W2'.heap.size W2' U → RowT U p l6 → Calls Try.prog 15 #[.slice p l6.length c, .slice pt l6.length ct] U fun e w' => e = .returned (.bool true) ∧ Below U.heap.size U w' := fun U p c hU hp => same_tots U _ _ _ _ _ hp (hrt.below hU (Nat.le_refl _))
        have k4 : ∀ U, Below W2'.heap.size W2' U → Calls Try.prog 16 #[.slice (some ⟨U.heap.size, 0, none⟩) 1 1] (U.alloc (.cells #[.slice pt l6.length ct] 40)) fun e w' => TotRet l6 (U.alloc (.cells #[.slice pt l6.length ct] 40)) w' e := fun U hU => merge_one _ U.heap.size pt l6 ct vs (Lies.new _ _ _) ((hrt.below hU (Nat.le_refl _)).below ((Below.refl _ _).alloc (Nat.le_refl _) _) (Nat.le_refl _)) HF.out.v HT.out.2
        have HK := Lib.hid (And.intro k1 (And.intro k2 (And.intro k3 k4)))
        have HZ := Lib.hid (And.intro hE (And.intro hrt (And.intro hL11 hbw)))
        clear k1 k2 k3 k4 hE hrt hL11 hbw hrr hL14 hr6 hb hL19 HY
        go_wp2_with fail
        refine (HK.out.1 _ (Below.refl _ _)).mono ?_
        rintro e U1 ⟨rfl, hb1⟩
        have H1 := Lib.hid hb1
        clear hb1 c0 c1 c2 c3 c4 c5
        go_wp2_with fail
        refine (HK.out.2.1 _ H1.out).mono ?_
        rintro e U2 ⟨p2, d2, rfl, hr2, hb2⟩
        have H2 := Lib.hid (And.intro (H1.out.trans (hb2.mono H1.out.size)) hr2)
        clear hb2 hr2 H1
        go_wp2_with fail
        refine (HK.out.2.2.1 _ _ _ H2.out.1 H2.out.2).mono ?_
        rintro e U3 ⟨rfl, hb3⟩
        have H3 := Lib.hid (H2.out.1.trans (hb3.mono H2.out.1.size))
        clear hb3 H2
        go_wp2_with fail
        refine (HK.out.2.2.2 _ H3.out).mono ?_
        rintro e U4 ⟨p4, d4, rfl, hr4, hb4⟩
        have hc4 : Below U3.heap.size U3 (U3.alloc (.cells #[.slice pt l6.length ct] 40)) := (Below.refl _ _).alloc (Nat.le_refl _) _
        have H4 := Lib.hid (And.intro (H3.out.trans ((hc4.trans (hb4.mono hc4.size)).mono H3.out.size)) hr4)
        clear hb4 hr4 hc4 H3
        go_wp2_with fail
        refine (HK.out.2.2.1 _ _ _ H4.out.1 H4.out.2).mono ?_
        rintro e U5 ⟨rfl, hb5⟩
        have hc5 := H4.out.1.trans (hb5.mono H4.out.1.size)
        have hE := HZ.out.1.below hc5
        have hrt := HZ.out.2.1.below hc5 (Nat.le_refl _)
        have hL11 := HZ.out.2.2.1.below hc5 HZ.out.2.2.1.lt
        have hbw := HZ.out.2.2.2.trans (hc5.mono HZ.out.2.2.2.size)
        have hli : (l6.length : Int) ≤ 9223372036854775807 := by
          have := hrt.1
          unfold maxLen at this
          omega
        have H5 := Lib.hid (And.intro hE (And.intro hrt (And.intro hL11 hbw)))
        clear hb5 hc5 hE hrt hL11 hbw H4 HK HZ
        go_wp2_with fail
        go_loopw [21] (fun i W => ∃ k : Nat, k ≤ l6.length ∧ i = .int .i64 k ∧ W = U5) (fun i _ => l6.length - (intOf i).toNat)
        case atStart => exact ⟨0, Nat.zero_le _, rfl, rfl⟩
        case round =>
          obtain ⟨k, hk, rfl, rfl⟩ := hrel
          by_cases hlt : k < l6.length
          · have m1 : (k : Int) < (l6.length : Int) := by omega
            have m0 : (0 : Int) ≤ (k : Int) := by omega
            obtain ⟨gt, ot, rfl, hgt, hht⟩ := H5.out.2.1.2.2 (by omega)
            obtain ⟨t, ht⟩ : ∃ t, t = l6[k] := ⟨_, rfl⟩
            have hkt : l6[k]? = some t := by rw [ht, List.getElem?_eq_getElem hlt]
            have hmem := List.mem_of_getElem? hkt
            have hok := H5.out.2.1.2.1 t hmem
            have c33 := hht k t hkt 33 (.int .i64 (hiS t.w)) (by rw [Array.getElem?_toList]; exact toC_hi t hok.1)
            have c34 := hht k t hkt 34 (.int .u64 (loN t.w)) (by rw [Array.getElem?_toList]; exact toC_lo t hok.1)
            have c35 : wr.cell? ⟨gt, ot + k * 35 + 33 + 1, none⟩ = some (.int .u64 (loN t.w)) := c34
            have hne : t.w ≠ 0 := tot_nz HT.out.2 hmem
            have hq : ∀ W, (Op.equalIn 10000 39 (.agg #[.int .i64 (hiS t.w), .int .u64 (loN t.w)]) (.agg #[.int .i64 0, .int .u64 0])).run Try.prog W = .ok false W := fun W => by
              have := eq_w W t.w 0
              rw [wC_zero, decide_eq_false hne] at this
              exact this
            have HR := Lib.hid hlt
            clear ht hkt hmem hok hne hgt hht hlt hk
            go_wp2_with fail
            have e1 : (k : Int) + 1 = ((k + 1 : Nat) : Int) := by omega
            rw [e1]
            refine ⟨⟨k + 1, HR.out, rfl, trivial⟩, ?_⟩
            have h := HR.out
            show l6.length - (k + 1) < l6.length - k
            omega
          · have m1 : ¬ (k : Int) < (l6.length : Int) := by omega
            clear hlt hk
            have hadd := add_m wr pi vs ci H5.out.1.vin HF.out.v.1
            have HA := Lib.hid hadd
            clear hadd
            go_wp2_with fail
            refine HA.out.mono ?_
            rintro e W8 ⟨⟨ok, vc, vl, vp, vk, rfl, hrv, ham⟩, hb⟩
            have hE := H5.out.1.below hb
            have hrt := H5.out.2.1.below hb (Nat.le_refl _)
            have hL11 := H5.out.2.2.1.below hb H5.out.2.2.1.lt
            have hbw := H5.out.2.2.2.trans (hb.mono H5.out.2.2.2.size)
            have H8 := Lib.hid (And.intro hE (And.intro hrt (And.intro hL11 (And.intro hbw (And.intro hrv ham)))))
            clear hb hE hrt hL11 hbw hrv ham HA H5 m1
            go_upto_if 127 with fail
            have hb : Below W8.heap.size W8 (W8.alloc (.cells #[.int .i64 vc, .slice vp vl.length vk] 24)) := (Below.refl _ _).alloc (Nat.le_refl _) _
            have hL22 : Lies (W8.alloc (.cells #[.int .i64 vc, .slice vp vl.length vk] 24)) W8.heap.size #[.int .i64 vc, .slice vp vl.length vk] 24 := Lies.new _ _ _
            generalize W8.alloc (.cells #[.int .i64 vc, .slice vp vl.length vk] 24) = W9 at hb hL22 ⊢
            have hE := H8.out.1.below hb
            have hrt := H8.out.2.1.below hb (Nat.le_refl _)
            have hL11 := H8.out.2.2.1.below hb H8.out.2.2.1.lt
            have hbw := H8.out.2.2.2.1.trans (hb.mono H8.out.2.2.2.1.size)
            have hrv := H8.out.2.2.2.2.1.below hb (Nat.le_refl _)
            have ham := H8.out.2.2.2.2.2
            obtain ⟨b22, hb22⟩ : ∃ b, b = W8.heap.size := ⟨_, rfl⟩
            rw [← hb22] at hL22 ⊢
            have H9 := Lib.hid (And.intro hE (And.intro hrt (And.intro hL11 (And.intro hbw (And.intro hrv (And.intro ham hL22))))))
            clear hb hE hrt hL11 hbw hrv ham hL22 hb22 H8
            go_cut [] from 24 (fun wx => Below W9.heap.size W9 wx)
            case first =>
              cases ok with
              | false =>
                go_wp2_with fail
                go_meet
                case rel => exact Below.refl _ _
              | true =>
                obtain ⟨e1, e2⟩ : coinS [(⟨vc, vp, vl, vk⟩ : Va)] = coinS vs ∧ ∀ n, sumAt (ctsL [(⟨vc, vp, vl, vk⟩ : Va)]) n = sumAt (ctsL vs) n := by
                  rcases H9.out.2.2.2.2.2.1 with ⟨_, hz⟩ | ⟨h, _⟩
                  · exact add_sums (V := ⟨vc, vp, vl, vk⟩) hz
                  · cases h
                have hfv : FewV [(⟨vc, vp, vl, vk⟩ : Va)] := by
                  rcases H9.out.2.2.2.2.2.1 with ⟨_, hz⟩ | ⟨h, _⟩
                  · exact FewV.one (few_told HF.out.v hz)
                  · cases h
                have hvo : VaOk W9 ⟨vc, vp, vl, vk⟩ := AddM.vaOk (S := ⟨vc, vp, vl, vk⟩) H9.out.2.2.2.2.2.1 H9.out.2.2.2.2.1
                have q0 := H9.out.2.2.2.2.2.2.cell 0 (v := .int .i64 vc) rfl
                have q1 := H9.out.2.2.2.2.2.2.cell 1 (v := .slice vp vl.length vk) rfl
                have hs := sums_few _ _ [(⟨vc, vp, vl, vk⟩ : Va)] 1 (one_row_v W9 ⟨vc, vp, vl, vk⟩ hvo) hfv
                have HQ := Lib.hid (And.intro hs (And.intro e1 e2))
                clear e1 e2 hfv hvo hs
                go_wp2_with fail
                refine HQ.out.1.mono ?_
                rintro e WA ⟨⟨p7, l7, c7, rfl, hr7, ht7, -⟩, hbA⟩
                obtain rfl := tot_eq ht7 HT.out.2 HQ.out.2.2
                rw [HQ.out.2.1, ← HT.out.1]
                have hb1 : Below W9.heap.size W9 (W9.alloc (.cells #[.int .i64 vc, .slice vp vl.length vk] 24)) := (Below.refl _ _).alloc (Nat.le_refl _) _
                have hbA := hb1.trans (hbA.mono hb1.size)
                have HA := Lib.hid (And.intro hbA hr7)
                clear hb1 hbA hr7 ht7 HQ q0 q1
                unfold wv
                go_upto_region 27 with fail
                have hb : Below WA.heap.size WA (WA.alloc (.cells #[.int .i64 (hiS S), .int .u64 (loN S)] 39)) := (Below.refl _ _).alloc (Nat.le_refl _) _
                have hL24 : Lies (WA.alloc (.cells #[.int .i64 (hiS S), .int .u64 (loN S)] 39)) WA.heap.size #[.int .i64 (hiS S), .int .u64 (loN S)] 39 := Lies.new _ _ _
                generalize WA.alloc (.cells #[.int .i64 (hiS S), .int .u64 (loN S)] 39) = WB at hb hL24 ⊢
                have hbB := HA.out.1.trans (hb.mono HA.out.1.size)
                have hL11 := H9.out.2.2.1.below hbB H9.out.2.2.1.lt
                have hrt := H9.out.2.1.below hbB (Nat.le_refl _)
                have hr7 := HA.out.2.below hb (Nat.le_refl _)
                have c0 := hL24.cell 0 (v := .int .i64 (hiS S)) rfl
                have c1 := hL24.cell 1 (v := .int .u64 (loN S)) rfl
                have c2 := hL11.cell 0 (v := .int .i64 (hiS S)) rfl
                have c3 := hL11.cell 1 (v := .int .u64 (loN S)) rfl
                have hst := same_tots WB p7 pt l7 c7 ct hr7 hrt
                have HB := Lib.hid (And.intro hbB hst)
                clear hb hL24 hbB hL11 hrt hr7 hst HA
                go_wp2_with fail
                refine HB.out.2.mono ?_
                rintro e WC ⟨rfl, hbC⟩
                have HC := Lib.hid (HB.out.1.trans (hbC.mono HB.out.1.size))
                clear hbC c0 c1 c2 c3 HB
                go_wp2_with fail
                go_meet
                case rel => exact HC.out
            case rest =>
              have hE := H9.out.1.below hcut
              have hbw := H9.out.2.2.2.1.trans (hcut.mono H9.out.2.2.2.1.size)
              have few1 : FewV (vs ++ [(⟨0, pm, ml, cm⟩ : Va)]) := HF.out.v.app (FewV.one (v := ⟨0, pm, ml, cm⟩) HF.out.mint) (by have h := HF.out.vl; show vs.length + 1 ≤ 1000; omega)
              have few2 : FewV (us ++ [(⟨fee, none, [], 0⟩ : Va)]) := HF.out.u.app (FewV.one (v := ⟨fee, none, [], 0⟩) few_nil) (by have h := HF.out.ul; show us.length + 1 ≤ 1000; omega)
              have hbal := bal_few wc pi vs ci pm ml cm po us co fee hE.vin hE.mint hE.out HN.out.1 HN.out.2.1 HN.out.2.2.1 HN.out.2.2.2.1 few1 few2
              have HD := Lib.hid (And.intro hbal (And.intro hE hbw))
              clear hcut hE hbw few1 few2 hbal H9
              go_wp2_with fail
              refine HD.out.1.mono ?_
              rintro e WD ⟨⟨b1, rfl, hk1⟩, hb⟩
              have hE := HD.out.2.1.below hb
              have hbw := HD.out.2.2.trans (hb.mono HD.out.2.2.size)
              have HP := Lib.hid (And.intro hk1 (And.intro hE hbw))
              clear hb hE hbw hk1 HD
              go_upto_region 30 with fail
              go_cut [27, 28] from 148 (fun p q wx => Apps WD wx vs us m p q)
              case first =>
                have HS : Hid (∀ U, Below WD.heap.size WD U → Lies U w.heap.size #[.int .i64 m.coin, .slice m.pa m.l.length m.c] 24) := Lib.hid fun U hU => HP.out.2.1.box.below hU HP.out.2.1.box.lt
                refine wp_region_noPanic (wp_region_held (S := fun U => Lies U w.heap.size #[.int .i64 m.coin, .slice m.pa m.l.length m.c] 24) (by kernel_rfl) ?_)
                change wpAnyH _ _ _ _ _ 11 _ _ (World.drew WD)
                have hcd : Below WD.heap.size WD WD.drew := (Below.refl _ _).drew
                generalize World.drew WD = wd at hcd ⊢
                have hcur := HS.out _ hcd
                refine held_take (i := 0) (v := (.agg #[.int .i64 m.coin, .slice m.pa m.l.length m.c])) rfl 148 rfl (by kernel_rfl) (by kernel_rfl) (by kernel_rfl) (fun _ _ _ h => h) (by rfl) (by intro w' hS'; exact exec_loadM 24 _ rfl _ _ rfl #[.int .i64 m.coin, .slice m.pa m.l.length m.c] (range_lies hS') Try.underlying24 rfl info_value) hcur _ rfl ?_
                simp only [Act.put, List.setIfInBounds_toArray, List.set_cons_zero, List.set_cons_succ]
                refine held_take (i := 2) (v := (.slice pi vs.length ci)) rfl 150 rfl (by kernel_rfl) (by kernel_rfl) (by kernel_rfl) (fun _ _ _ h => h) (by rfl) (by intro w' hS'; unfold execOp; simp [go_sem]) hcur _ rfl ?_
                simp only [Act.put, List.setIfInBounds_toArray, List.set_cons_zero, List.set_cons_succ]
                refine held_take (i := 4) (v := (.slice po us.length co)) rfl 152 rfl (by kernel_rfl) (by kernel_rfl) (by kernel_rfl) (fun _ _ _ h => h) (by rfl) (by intro w' hS'; unfold execOp; simp [go_sem]) hcur _ rfl ?_
                simp only [Act.put, List.setIfInBounds_toArray, List.set_cons_zero, List.set_cons_succ]
                refine held_take (i := 6) (v := (.agg #[.int .i64 m.coin, .slice m.pa m.l.length m.c])) rfl 154 rfl (by kernel_rfl) (by kernel_rfl) (by kernel_rfl) (fun _ _ _ h => h) (by rfl) (by intro w' hS'; exact exec_loadM 24 _ rfl _ _ rfl #[.int .i64 m.coin, .slice m.pa m.l.length m.c] (range_lies hS') Try.underlying24 rfl info_value) hcur _ rfl ?_
                simp only [Act.put, List.setIfInBounds_toArray, List.set_cons_zero, List.set_cons_succ]
                refine held_two (i := 1) (j := 7) (by kernel_rfl) _ rfl _ rfl ?_ ?_
                · refine wpOp_valG (v := .slice (some ⟨wd.heap.size, 0, none⟩) 1 1) (w' := wd.alloc (.cells #[.int .i64 m.coin, .slice m.pa m.l.length m.c] 24)) rfl (by rfl) 149 rfl (by unfold execOp; simp [go_sem]) ?_
                  have hb1 : Below wd.heap.size wd (wd.alloc (.cells #[.int .i64 m.coin, .slice m.pa m.l.length m.c] 24)) := (Below.refl _ _).alloc (Nat.le_refl _) _
                  have hl1 : Lies (wd.alloc (.cells #[.int .i64 m.coin, .slice m.pa m.l.length m.c] 24)) wd.heap.size #[.int .i64 m.coin, .slice m.pa m.l.length m.c] 24 := Lies.new _ _ _
                  have ho1 := one_own wd WD.heap.size hcd.size m
                  generalize wd.alloc (.cells #[.int .i64 m.coin, .slice m.pa m.l.length m.c] 24) = w1 at hb1 hl1 ho1 ⊢
                  obtain ⟨g1, hg1⟩ : ∃ g, g = wd.heap.size := ⟨_, rfl⟩
                  rw [← hg1] at hl1 ho1 ⊢
                  have hc1 := hcd.trans (hb1.mono hcd.size)
                  have hcur := HS.out _ hc1
                  refine ⟨hcur, ?_⟩
                  simp only [Act.put, List.setIfInBounds_toArray, List.set_cons_zero, List.set_cons_succ]
                  refine held_two (i := 3) (j := 7) (by kernel_rfl) _ rfl _ rfl ?_ ?_
                  · obtain ⟨x3, w2, hr2, ho2, hg2, ha2⟩ := app_one w1 WD.heap.size g1 pi vs ci m ho1 (rowV_src (HP.out.2.1.vin.below hc1 (Nat.le_refl _)) HN.out.2.2.1) (by have h := HF.out.vl; omega) hc1.size
                    refine wpOp_valG (v := x3) (w' := w2) rfl (by rfl) 151 rfl (hr2 _ _ rfl rfl rfl) ?_
                    have hc2 := hc1.grown hg2 hc1.size (fun j hj => (ho1.lt j hj).1)
                    have hcur := HS.out _ hc2
                    refine ⟨hcur, ?_⟩
                    simp only [Act.put, List.setIfInBounds_toArray, List.set_cons_zero, List.set_cons_succ]
                    refine held_two (i := 5) (j := 7) (by kernel_rfl) _ rfl _ rfl ?_ ?_
                    · refine wpOp_callG rfl (by rfl) 153 rfl 18 #[.slice po us.length co] (by unfold execOp; simp [go_sem]) _ (ret_copy (copyVs_any w2 po us co (HP.out.2.1.out.below hc2 (Nat.le_refl _)) (by have h := HF.out.ul; omega) (fun u hu => by have h := (HF.out.u.2 u hu).1; omega) HN.out.2.2.2.2)) ?_
                      rintro x5 w3 ⟨⟨cs, hp3⟩, hb3⟩
                      have hc3 := hc2.trans (hb3.mono hc2.size)
                      have hm3 := ownsRow_below ho2 hb3
                      have hf3 : x3.ownBlock = none ∨ x3.ownBlock ≠ x5.ownBlock := own_older ho2 hp3.own
                      have hk3 : WD.heap.size ≤ w2.heap.size := hc2.size
                      have hs3 : w2.heap.size ≤ w3.heap.size := hb3.size
                      have hcur := HS.out _ hc3
                      refine ⟨hcur, ?_⟩
                      simp only [Act.put, List.setIfInBounds_toArray, List.set_cons_zero, List.set_cons_succ]
                      refine held_one (i := 7) (by kernel_rfl) _ rfl ?_
                      refine wpOp_valG (v := .slice (some ⟨w3.heap.size, 0, none⟩) 1 1) (w' := w3.alloc (.cells #[.int .i64 m.coin, .slice m.pa m.l.length m.c] 24)) rfl (by rfl) 155 rfl (by unfold execOp; simp [go_sem]) ?_
                      have hb4 : Below w3.heap.size w3 (w3.alloc (.cells #[.int .i64 m.coin, .slice m.pa m.l.length m.c] 24)) := (Below.refl _ _).alloc (Nat.le_refl _) _
                      have hl4 : Lies (w3.alloc (.cells #[.int .i64 m.coin, .slice m.pa m.l.length m.c] 24)) w3.heap.size #[.int .i64 m.coin, .slice m.pa m.l.length m.c] 24 := Lies.new _ _ _
                      generalize w3.alloc (.cells #[.int .i64 m.coin, .slice m.pa m.l.length m.c] 24) = w4 at hb4 hl4 ⊢
                      obtain ⟨g4, hg4⟩ : ∃ g, g = w3.heap.size := ⟨_, rfl⟩
                      rw [← hg4] at hl4 ⊢
                      have hc4 := hc3.trans (hb4.mono hc3.size)
                      have hm4 := ownsRow_below hm3 hb4
                      have hp4 := hp3.below hb4
                      have hs4 := Nat.le_trans hs3 hb4.size
                      have hcur := HS.out _ hc4
                      refine ⟨hcur, ?_⟩
                      simp only [Act.put, List.setIfInBounds_toArray, List.set_cons_zero, List.set_cons_succ]
                      refine held_one (i := 8) (by kernel_rfl) _ rfl ?_
                      obtain ⟨x8, w5, hr5, ho5, hg5, ha5⟩ := app_last w4 _ x5 cs g4 m hp4.own hl4 (by have h := HF.out.ul; have h2 := congrArg List.length hp4.same; simp only [List.length_map] at h2; omega) hs4
                      refine wpOp_valG (v := x8) (w' := w5) rfl (by rfl) 156 rfl (hr5 _ _ rfl rfl rfl) ?_
                      have hc5 := hc4.grown hg5 hc4.size (fun j hj => Nat.le_trans hk3 (hp4.own.lt j hj).1)
                      have hfin := apps_fin HP.out.2.1 hc4 hm4 hp4 hk3 hf3 ho5 hg5 HF.out.vl HF.out.ul
                      have hcur := HS.out _ hc5
                      refine ⟨hcur, ?_⟩
                      simp only [Act.put, List.setIfInBounds_toArray, List.set_cons_zero, List.set_cons_succ]
                      have HFI := Lib.hid hfin
                      refine held_take (i := 9) (v := (x3)) rfl 27 rfl (by kernel_rfl) (by kernel_rfl) (by kernel_rfl) (fun _ _ _ h => h) (by rfl) (by intro w' hS'; unfold execOp; simp [go_sem]) hcur _ rfl ?_
                      simp only [Act.put, List.setIfInBounds_toArray, List.set_cons_zero, List.set_cons_succ]
                      refine held_take (i := 10) (v := (x8)) rfl 28 rfl (by kernel_rfl) (by kernel_rfl) (by kernel_rfl) (fun _ _ _ h => h) (by rfl) (by intro w' hS'; unfold execOp; simp [go_sem]) hcur _ rfl ?_
                      simp only [Act.put, List.setIfInBounds_toArray, List.set_cons_zero, List.set_cons_succ]
                      refine wpAnyH_done (by kernel_rfl) ?_ _
                      unfold NoPanic
                      dsimp only
                      clear hcur hfin
                      go_wp2_with fail
                      go_meet
                      case rel => exact HFI.out
                    · refine wpOp_valG (v := .slice (some ⟨w2.heap.size, 0, none⟩) 1 1) (w' := w2.alloc (.cells #[.int .i64 m.coin, .slice m.pa m.l.length m.c] 24)) rfl (by rfl) 155 rfl (by unfold execOp; simp [go_sem]) ?_
                      have hb6 : Below w2.heap.size w2 (w2.alloc (.cells #[.int .i64 m.coin, .slice m.pa m.l.length m.c] 24)) := (Below.refl _ _).alloc (Nat.le_refl _) _
                      have hl6 : Lies (w2.alloc (.cells #[.int .i64 m.coin, .slice m.pa m.l.length m.c] 24)) w2.heap.size #[.int .i64 m.coin, .slice m.pa m.l.length m.c] 24 := Lies.new _ _ _
                      generalize w2.alloc (.cells #[.int .i64 m.coin, .slice m.pa m.l.length m.c] 24) = w6 at hb6 hl6 ⊢
                      obtain ⟨g6, hg6⟩ : ∃ g, g = w2.heap.size := ⟨_, rfl⟩
                      rw [← hg6] at hl6 ⊢
                      have hc6 := hc2.trans (hb6.mono hc2.size)
                      have hm6 := ownsRow_below ho2 hb6
                      have hcur := HS.out _ hc6
                      refine ⟨hcur, ?_⟩
                      simp only [Act.put, List.setIfInBounds_toArray, List.set_cons_zero, List.set_cons_succ]
                      refine held_one (i := 5) (by kernel_rfl) _ rfl ?_
                      refine wpOp_callG rfl (by rfl) 153 rfl 18 #[.slice po us.length co] (by unfold execOp; simp [go_sem]) _ (ret_copy (copyVs_any w6 po us co (HP.out.2.1.out.below hc6 (Nat.le_refl _)) (by have h := HF.out.ul; omega) (fun u hu => by have h := (HF.out.u.2 u hu).1; omega) HN.out.2.2.2.2)) ?_
                      rintro x5 w7 ⟨⟨cs, hp7⟩, hb7⟩
                      have hc7 := hc6.trans (hb7.mono hc6.size)
                      have hm7 := ownsRow_below hm6 hb7
                      have hf7 : x3.ownBlock = none ∨ x3.ownBlock ≠ x5.ownBlock := own_older hm6 hp7.own
                      have hk7 : WD.heap.size ≤ w6.heap.size := hc6.size
                      have hz7 := hl6.below hb7 hl6.lt
                      have hs7 : w6.heap.size ≤ w7.heap.size := hb7.size
                      have hcur := HS.out _ hc7
                      refine ⟨hcur, ?_⟩
                      simp only [Act.put, List.setIfInBounds_toArray, List.set_cons_zero, List.set_cons_succ]
                      refine held_one (i := 8) (by kernel_rfl) _ rfl ?_
                      obtain ⟨x8, w8, hr8, ho8, hg8, ha8⟩ := app_last w7 _ x5 cs g6 m hp7.own hz7 (by have h := HF.out.ul; have h2 := congrArg List.length hp7.same; simp only [List.length_map] at h2; omega) hs7
                      refine wpOp_valG (v := x8) (w' := w8) rfl (by rfl) 156 rfl (hr8 _ _ rfl rfl rfl) ?_
                      have hc8 := hc7.grown hg8 hc7.size (fun j hj => Nat.le_trans hk7 (hp7.own.lt j hj).1)
                      have hfin := apps_fin HP.out.2.1 hc7 hm7 hp7 hk7 hf7 ho8 hg8 HF.out.vl HF.out.ul
                      have hcur := HS.out _ hc8
                      refine ⟨hcur, ?_⟩
                      simp only [Act.put, List.setIfInBounds_toArray, List.set_cons_zero, List.set_cons_succ]
                      have HFI := Lib.hid hfin
                      refine held_take (i := 9) (v := (x3)) rfl 27 rfl (by kernel_rfl) (by kernel_rfl) (by kernel_rfl) (fun _ _ _ h => h) (by rfl) (by intro w' hS'; unfold execOp; simp [go_sem]) hcur _ rfl ?_
                      simp only [Act.put, List.setIfInBounds_toArray, List.set_cons_zero, List.set_cons_succ]
                      refine held_take (i := 10) (v := (x8)) rfl 28 rfl (by kernel_rfl) (by kernel_rfl) (by kernel_rfl) (fun _ _ _ h => h) (by rfl) (by intro w' hS'; unfold execOp; simp [go_sem]) hcur _ rfl ?_
                      simp only [Act.put, List.setIfInBounds_toArray, List.set_cons_zero, List.set_cons_succ]
                      refine wpAnyH_done (by kernel_rfl) ?_ _
                      unfold NoPanic
                      dsimp only
                      clear hcur hfin
                      go_wp2_with fail
                      go_meet
                      case rel => exact HFI.out
                  · refine wpOp_valG (v := .slice (some ⟨w1.heap.size, 0, none⟩) 1 1) (w' := w1.alloc (.cells #[.int .i64 m.coin, .slice m.pa m.l.length m.c] 24)) rfl (by rfl) 155 rfl (by unfold execOp; simp [go_sem]) ?_
                    have hb9 : Below w1.heap.size w1 (w1.alloc (.cells #[.int .i64 m.coin, .slice m.pa m.l.length m.c] 24)) := (Below.refl _ _).alloc (Nat.le_refl _) _
                    have hl9 : Lies (w1.alloc (.cells #[.int .i64 m.coin, .slice m.pa m.l.length m.c] 24)) w1.heap.size #[.int .i64 m.coin, .slice m.pa m.l.length m.c] 24 := Lies.new _ _ _
                    generalize w1.alloc (.cells #[.int .i64 m.coin, .slice m.pa m.l.length m.c] 24) = w9 at hb9 hl9 ⊢
                    obtain ⟨g9, hg9⟩ : ∃ g, g = w1.heap.size := ⟨_, rfl⟩
                    rw [← hg9] at hl9 ⊢
                    have hc9 := hc1.trans (hb9.mono hc1.size)
                    have hn9 : g1 ≠ g9 := by have h := (ho1.lt _ rfl).2; rw [hg9]; exact Nat.ne_of_lt h
                    have hm9 := ownsRow_below ho1 hb9
                    have hcur := HS.out _ hc9
                    refine ⟨hcur, ?_⟩
                    simp only [Act.put, List.setIfInBounds_toArray, List.set_cons_zero, List.set_cons_succ]
                    refine held_one (i := 3) (by kernel_rfl) _ rfl ?_
                    obtain ⟨x3, w10, hr10, ho10, hg10, ha10⟩ := app_one w9 WD.heap.size g1 pi vs ci m hm9 (rowV_src (HP.out.2.1.vin.below hc9 (Nat.le_refl _)) HN.out.2.2.1) (by have h := HF.out.vl; omega) hc9.size
                    refine wpOp_valG (v := x3) (w' := w10) rfl (by rfl) 151 rfl (hr10 _ _ rfl rfl rfl) ?_
                    have hc10 := hc9.grown hg10 hc9.size (fun j hj => (hm9.lt j hj).1)
                    have hm10 := lies_grown hg10 hl9 (fun e => hn9 (Option.some.inj e).symm)
                    have hcur := HS.out _ hc10
                    refine ⟨hcur, ?_⟩
                    simp only [Act.put, List.setIfInBounds_toArray, List.set_cons_zero, List.set_cons_succ]
                    refine held_one (i := 5) (by kernel_rfl) _ rfl ?_
                    refine wpOp_callG rfl (by rfl) 153 rfl 18 #[.slice po us.length co] (by unfold execOp; simp [go_sem]) _ (ret_copy (copyVs_any w10 po us co (HP.out.2.1.out.below hc10 (Nat.le_refl _)) (by have h := HF.out.ul; omega) (fun u hu => by have h := (HF.out.u.2 u hu).1; omega) HN.out.2.2.2.2)) ?_
                    rintro x5 w11 ⟨⟨cs, hp11⟩, hb11⟩
                    have hc11 := hc10.trans (hb11.mono hc10.size)
                    have hm11 := ownsRow_below ho10 hb11
                    have hf11 : x3.ownBlock = none ∨ x3.ownBlock ≠ x5.ownBlock := own_older ho10 hp11.own
                    have hk11 : WD.heap.size ≤ w10.heap.size := hc10.size
                    have hz11 := hm10.below hb11 hm10.lt
                    have hs11 : w10.heap.size ≤ w11.heap.size := hb11.size
                    have hcur := HS.out _ hc11
                    refine ⟨hcur, ?_⟩
                    simp only [Act.put, List.setIfInBounds_toArray, List.set_cons_zero, List.set_cons_succ]
                    refine held_one (i := 8) (by kernel_rfl) _ rfl ?_
                    obtain ⟨x8, w12, hr12, ho12, hg12, ha12⟩ := app_last w11 _ x5 cs g9 m hp11.own hz11 (by have h := HF.out.ul; have h2 := congrArg List.length hp11.same; simp only [List.length_map] at h2; omega) hs11
                    refine wpOp_valG (v := x8) (w' := w12) rfl (by rfl) 156 rfl (hr12 _ _ rfl rfl rfl) ?_
                    have hc12 := hc11.grown hg12 hc11.size (fun j hj => Nat.le_trans hk11 (hp11.own.lt j hj).1)
                    have hfin := apps_fin HP.out.2.1 hc11 hm11 hp11 hk11 hf11 ho12 hg12 HF.out.vl HF.out.ul
                    have hcur := HS.out _ hc12
                    refine ⟨hcur, ?_⟩
                    simp only [Act.put, List.setIfInBounds_toArray, List.set_cons_zero, List.set_cons_succ]
                    have HFI := Lib.hid hfin
                    refine held_take (i := 9) (v := (x3)) rfl 27 rfl (by kernel_rfl) (by kernel_rfl) (by kernel_rfl) (fun _ _ _ h => h) (by rfl) (by intro w' hS'; unfold execOp; simp [go_sem]) hcur _ rfl ?_
                    simp only [Act.put, List.setIfInBounds_toArray, List.set_cons_zero, List.set_cons_succ]
                    refine held_take (i := 10) (v := (x8)) rfl 28 rfl (by kernel_rfl) (by kernel_rfl) (by kernel_rfl) (fun _ _ _ h => h) (by rfl) (by intro w' hS'; unfold execOp; simp [go_sem]) hcur _ rfl ?_
                    simp only [Act.put, List.setIfInBounds_toArray, List.set_cons_zero, List.set_cons_succ]
                    refine wpAnyH_done (by kernel_rfl) ?_ _
                    unfold NoPanic
                    dsimp only
                    clear hcur hfin
                    go_wp2_with fail
                    go_meet
                    case rel => exact HFI.out
                · refine wpOp_valG (v := .slice (some ⟨wd.heap.size, 0, none⟩) 1 1) (w' := wd.alloc (.cells #[.int .i64 m.coin, .slice m.pa m.l.length m.c] 24)) rfl (by rfl) 155 rfl (by unfold execOp; simp [go_sem]) ?_
                  have hb13 : Below wd.heap.size wd (wd.alloc (.cells #[.int .i64 m.coin, .slice m.pa m.l.length m.c] 24)) := (Below.refl _ _).alloc (Nat.le_refl _) _
                  have hl13 : Lies (wd.alloc (.cells #[.int .i64 m.coin, .slice m.pa m.l.length m.c] 24)) wd.heap.size #[.int .i64 m.coin, .slice m.pa m.l.length m.c] 24 := Lies.new _ _ _
                  generalize wd.alloc (.cells #[.int .i64 m.coin, .slice m.pa m.l.length m.c] 24) = w13 at hb13 hl13 ⊢
                  obtain ⟨g13, hg13⟩ : ∃ g, g = wd.heap.size := ⟨_, rfl⟩
                  rw [← hg13] at hl13 ⊢
                  have hc13 := hcd.trans (hb13.mono hcd.size)
                  have hcur := HS.out _ hc13
                  refine ⟨hcur, ?_⟩
                  simp only [Act.put, List.setIfInBounds_toArray, List.set_cons_zero, List.set_cons_succ]
                  refine held_one (i := 1) (by kernel_rfl) _ rfl ?_
                  refine wpOp_valG (v := .slice (some ⟨w13.heap.size, 0, none⟩) 1 1) (w' := w13.alloc (.cells #[.int .i64 m.coin, .slice m.pa m.l.length m.c] 24)) rfl (by rfl) 149 rfl (by unfold execOp; simp [go_sem]) ?_
                  have hb14 : Below w13.heap.size w13 (w13.alloc (.cells #[.int .i64 m.coin, .slice m.pa m.l.length m.c] 24)) := (Below.refl _ _).alloc (Nat.le_refl _) _
                  have hl14 : Lies (w13.alloc (.cells #[.int .i64 m.coin, .slice m.pa m.l.length m.c] 24)) w13.heap.size #[.int .i64 m.coin, .slice m.pa m.l.length m.c] 24 := Lies.new _ _ _
                  have ho14 := one_own w13 WD.heap.size hc13.size m
                  generalize w13.alloc (.cells #[.int .i64 m.coin, .slice m.pa m.l.length m.c] 24) = w14 at hb14 hl14 ho14 ⊢
                  obtain ⟨g14, hg14⟩ : ∃ g, g = w13.heap.size := ⟨_, rfl⟩
                  rw [← hg14] at hl14 ho14 ⊢
                  have hc14 := hc13.trans (hb14.mono hc13.size)
                  have hn14 : g14 ≠ g13 := by have h := hl13.lt; omega
                  have hm14 := hl13.below hb14 hl13.lt
                  have hcur := HS.out _ hc14
                  refine ⟨hcur, ?_⟩
                  simp only [Act.put, List.setIfInBounds_toArray, List.set_cons_zero, List.set_cons_succ]
                  refine held_one (i := 3) (by kernel_rfl) _ rfl ?_
                  obtain ⟨x3, w15, hr15, ho15, hg15, ha15⟩ := app_one w14 WD.heap.size g14 pi vs ci m ho14 (rowV_src (HP.out.2.1.vin.below hc14 (Nat.le_refl _)) HN.out.2.2.1) (by have h := HF.out.vl; omega) hc14.size
                  refine wpOp_valG (v := x3) (w' := w15) rfl (by rfl) 151 rfl (hr15 _ _ rfl rfl rfl) ?_
                  have hc15 := hc14.grown hg15 hc14.size (fun j hj => (ho14.lt j hj).1)
                  have hm15 := lies_grown hg15 hm14 (fun e => hn14 (Option.some.inj e).symm)
                  have hcur := HS.out _ hc15
                  refine ⟨hcur, ?_⟩
                  simp only [Act.put, List.setIfInBounds_toArray, List.set_cons_zero, List.set_cons_succ]
                  refine held_one (i := 5) (by kernel_rfl) _ rfl ?_
                  refine wpOp_callG rfl (by rfl) 153 rfl 18 #[.slice po us.length co] (by unfold execOp; simp [go_sem]) _ (ret_copy (copyVs_any w15 po us co (HP.out.2.1.out.below hc15 (Nat.le_refl _)) (by have h := HF.out.ul; omega) (fun u hu => by have h := (HF.out.u.2 u hu).1; omega) HN.out.2.2.2.2)) ?_
                  rintro x5 w16 ⟨⟨cs, hp16⟩, hb16⟩
                  have hc16 := hc15.trans (hb16.mono hc15.size)
                  have hm16 := ownsRow_below ho15 hb16
                  have hf16 : x3.ownBlock = none ∨ x3.ownBlock ≠ x5.ownBlock := own_older ho15 hp16.own
                  have hk16 : WD.heap.size ≤ w15.heap.size := hc15.size
                  have hz16 := hm15.below hb16 hm15.lt
                  have hs16 : w15.heap.size ≤ w16.heap.size := hb16.size
                  have hcur := HS.out _ hc16
                  refine ⟨hcur, ?_⟩
                  simp only [Act.put, List.setIfInBounds_toArray, List.set_cons_zero, List.set_cons_succ]
                  refine held_one (i := 8) (by kernel_rfl) _ rfl ?_
                  obtain ⟨x8, w17, hr17, ho17, hg17, ha17⟩ := app_last w16 _ x5 cs g13 m hp16.own hz16 (by have h := HF.out.ul; have h2 := congrArg List.length hp16.same; simp only [List.length_map] at h2; omega) hs16
                  refine wpOp_valG (v := x8) (w' := w17) rfl (by rfl) 156 rfl (hr17 _ _ rfl rfl rfl) ?_
                  have hc17 := hc16.grown hg17 hc16.size (fun j hj => Nat.le_trans hk16 (hp16.own.lt j hj).1)
                  have hfin := apps_fin HP.out.2.1 hc16 hm16 hp16 hk16 hf16 ho17 hg17 HF.out.vl HF.out.ul
                  have hcur := HS.out _ hc17
                  refine ⟨hcur, ?_⟩
                  simp only [Act.put, List.setIfInBounds_toArray, List.set_cons_zero, List.set_cons_succ]
                  have HFI := Lib.hid hfin
                  refine held_take (i := 9) (v := (x3)) rfl 27 rfl (by kernel_rfl) (by kernel_rfl) (by kernel_rfl) (fun _ _ _ h => h) (by rfl) (by intro w' hS'; unfold execOp; simp [go_sem]) hcur _ rfl ?_
                  simp only [Act.put, List.setIfInBounds_toArray, List.set_cons_zero, List.set_cons_succ]
                  refine held_take (i := 10) (v := (x8)) rfl 28 rfl (by kernel_rfl) (by kernel_rfl) (by kernel_rfl) (fun _ _ _ h => h) (by rfl) (by intro w' hS'; unfold execOp; simp [go_sem]) hcur _ rfl ?_
                  simp only [Act.put, List.setIfInBounds_toArray, List.set_cons_zero, List.set_cons_succ]
                  refine wpAnyH_done (by kernel_rfl) ?_ _
                  unfold NoPanic
                  dsimp only
                  clear hcur hfin
                  go_wp2_with fail
                  go_meet
                  case rel => exact HFI.out
              case rest =>
                obtain ⟨pp, cp, pq, cq, cs, L, M, eL, eM, rfl, hrp, hnp, rfl, hrq, hnq, hsame, hbx⟩ := hcut
                have hE := HP.out.2.1.below hbx
                have hbw := HP.out.2.2.trans (hbx.mono HP.out.2.2.size)
                have hul := same_len hsame
                have few1 : FewV ((m :: vs) ++ [(⟨0, pm, ml, cm⟩ : Va)]) := ((FewV.one HF.out.more).app HF.out.v (by have h := HF.out.vl; show 1 + vs.length ≤ 1000; omega)).app (FewV.one (v := ⟨0, pm, ml, cm⟩) HF.out.mint) (by have h := HF.out.vl; show ([m] ++ vs).length + 1 ≤ 1000; rw [List.length_append]; show 1 + vs.length + 1 ≤ 1000; omega)
                have few2 : FewV ((cs ++ [m]) ++ [(⟨fee, none, [], 0⟩ : Va)]) := ((few_same hsame HF.out.u).app (FewV.one HF.out.more) (by have h := HF.out.ul; show cs.length + 1 ≤ 1000; omega)).app (FewV.one (v := ⟨fee, none, [], 0⟩) few_nil) (by have h := HF.out.ul; show (cs ++ [m]).length + 1 ≤ 1000; rw [List.length_append]; show cs.length + 1 + 1 ≤ 1000; omega)
                rw [← eL] at few1
                rw [← eM] at few2
                have hbal := bal_few wc pp L cp pm ml cm pq M cq fee hrp hE.mint hrq HN.out.1 HN.out.2.1 hnp hnq few1 few2
                have HK := Lib.hid (And.intro hbal (And.intro hE (And.intro hbw (And.intro hsame (And.intro eL eM)))))
                clear eL eM hrp hnp hrq hnq hsame hbx hE hbw hul few1 few2 hbal
                go_wp2_with fail
                refine HK.out.1.mono ?_
                rintro e WE ⟨⟨b2, rfl, hk2⟩, hb⟩
                rw [HK.out.2.2.2.2.1, HK.out.2.2.2.2.2] at hk2
                obtain rfl := bal_more HP.out.1 hk2 HK.out.2.2.2.1 ⟨rfl, rfl⟩
                have hE := HK.out.2.1.below hb
                have hbw := HK.out.2.2.1.trans (hb.mono HK.out.2.2.1.size)
                have hself := bal_self WE pi vs ci hE.vin HN.out.2.2.1 HF.out.v HF.out.vl
                have HX := Lib.hid (And.intro hself (And.intro hE hbw))
                clear hb hk2 hE hbw hself HK HP
                go_wp2_with fail
                refine HX.out.1.mono ?_
                rintro e WF ⟨rfl, hb⟩
                have hE := HX.out.2.1.below hb
                have hbw := HX.out.2.2.trans (hb.mono HX.out.2.2.size)
                have q1 := hE.box.cell 1 (v := .slice m.pa m.l.length m.c) rfl
                have hmint := bal_mint WF m hE.more.2.2 HF.out.more
                have HY := Lib.hid (And.intro hmint hbw)
                clear hb hE hbw hmint HX
                go_wp2_with fail
                refine HY.out.1.mono ?_
                rintro e WG ⟨rfl, hb⟩
                have HZ := Lib.hid (HY.out.2.trans (hb.mono HY.out.2.size))
                clear hb HY q1
                go_wp2_with fail
                go_ret
                exact ⟨rfl, HZ.out⟩
end Go.Proofs.Ytjngghihciimjaa
