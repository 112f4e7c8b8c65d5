/-
  pack: a reader that things are got of; the getter's closures of nodes.
-/
import Derived.Test.YtilbbemdinpjcaaGreatJPk
import Derived.Test.YtilbbemdinpjcaaGreatJPr
import Derived.Test.YtilbbemdinpjcaaGreatJWTwo
import Derived.Test.YtilbbemdinpjcaaGreatJWRRf4
set_option maxHeartbeats 16000000
namespace Go.Proofs.YtilbbemdinpjcaaGreat.P
set_option maxRecDepth 100000
open Go.RowKit
theorem have_kinds {o : Ot} (h : haveB o = true) (h2 : o.kind = 2) : ∀ x ∈ o.ns, 1 ≤ x.kind ∧ x.kind ≤ 6 := by
 unfold haveB at h
 rw [if_neg (by omega), if_neg (by omega), if_pos h2, Bool.and_eq_true] at h
 exact right_kinds h.2
theorem outs_kinds {o : Ot} (h : rightOB o = true) (h2 : o.kind = 2) : ∀ x ∈ o.ns, 1 ≤ x.kind ∧ x.kind ≤ 6 := by
 unfold rightOB at h
 rw [Bool.and_eq_true] at h
 exact have_kinds h.2 h2
theorem putOutputG_any (w : World) {B g : Nat} {v : Value} {st : Option (List UInt8)} (o : Ot) (hT : Stays g w v fun W => OtOk W o) (hi : ∀ x ∈ o.ns, NdIn x) (h : WrO W.WSt w B g v st) (hx : sz st + 123 * cntO o ≤ 700000) :
    Calls Tryz.prog 138 #[.pointer (some ⟨g, 0, none⟩), .agg (otC o), .func (Fn.func 13) #[] #[], .func (Fn.func 139) #[] #[]] w (PutR W.WSt w B g v (if rightOB o then outS st o else none)) := by
  have hf := hT.now
  obtain ⟨r, hrb⟩ : ∃ r, r = rightOB o := ⟨_, rfl⟩
  obtain ⟨s2, hs2⟩ : ∃ s, s = outS st o := ⟨_, rfl⟩
  obtain ⟨s3, hs3⟩ : ∃ s, s = (if r then s2 else none) := ⟨_, rfl⟩
  obtain ⟨ov, hov⟩ : ∃ y, y = otC o := ⟨_, rfl⟩
  have hf1 := T.callK 13 Tryz.f13 Tryz.func13 (by kernel_rfl) (by kernel_rfl)
  have hf2 := T.callK 139 Tryz.f139 Tryz.func139 (by kernel_rfl) (by kernel_rfl)
  have HR : Hid (∀ V, Below w.heap.size w V → Calls Tryz.prog 13 #[.agg ov] V fun e w' => e = .returned (.bool r) ∧ Below V.heap.size V w') := Lib.hid fun V hb => by
    have hf := (hT.on (Lk.of_below hb)).now
    rw [hrb, hov]; exact rightOutput_any V o hf
  have HC : Hid (r = true → ∀ V, Below w.heap.size w V → Calls Tryz.prog 139 #[.agg #[.pointer (some ⟨g, 0, none⟩)], .agg ov] V (PutR W.WSt V B g v s2)) := Lib.hid fun hr V hb => by
    have hS := hT.on (Lk.of_below hb)
    have hw := h.belowW hb
    rw [hrb] at hr
    rw [hs2, hov]; exact putterOutput_any V o hS (outs_kinds hr) hi hw hx
  have hi1 : (Tryz.prog.info? 35).map (·.size) = some ov.size := by rw [hov, otC_size o hf.ah hf.dh]; exact info_output
  have hL := Lies.new w ov 35
  have hb : Below w.heap.size w (w.alloc (.cells ov 35)) := (Below.refl _ _).alloc (Nat.le_refl _) _
  have HI := Lib.hid hi1
  rw [← hrb, ← hs2, ← hs3, ← hov]
  have H := Lib.hid (And.intro h hs3)
  clear hT h hx hf hrb hs2 hs3 hov hi1 hi
  obtain ⟨W0, HW⟩ : ∃ W0, w.alloc (.cells ov 35) = W0 := ⟨_, rfl⟩
  go_enter Tryz.func138, Tryz.ntmps138
  go_upto_region 1 with fail
  rw [HW] at hL hb
  clear HW
  obtain ⟨q, hq⟩ : ∃ q, q = w.heap.size := ⟨_, rfl⟩
  rw [← hq] at hL ⊢
  clear hq
  have HB := Lib.hid (And.intro hb hL)
  clear hb hL
  go_wp2_with (first
    | (at_builtin; fail)
    | (refine wpList_load_row rfl 35 _ rfl q rfl 35 ov (0, 0) _ (HB.out.2) Tryz.underlying35 rfl HI.out ?_))
  refine (HR.out _ HB.out.1).mono ?_
  rintro e W1 ⟨rfl, hb1⟩
  have hbw := HB.out.1.trans (hb1.mono HB.out.1.size)
  have HL1 := Lib.hid (HB.out.2.below hb1 HB.out.2.lt)
  have HW1 := Lib.hid hbw
  clear hb1 hbw HR
  cases r with
  | true =>
    have HCC := Lib.hid (HC.out rfl W1 HW1.out)
    clear HC
    go_wp2_with (first
      | (at_builtin; fail)
      | (refine wpList_load_row rfl 35 _ rfl q rfl 35 ov (0, 0) _ (HL1.out) Tryz.underlying35 rfl HI.out ?_))
    refine HCC.out.mono ?_
    rintro e W2 hr2
    obtain ⟨rfl, hr2⟩ := hr2
    have HE := Lib.hid hr2
    clear hr2 HCC
    go_wp2_with fail
    first
      | go_end0
      | refine bodyPost_ret (results_none rfl _ _ _) rfl ?_
    rw [H.out.2]
    exact PutR.after HW1.out ⟨rfl, HE.out⟩
  | false =>
    have HCC := Lib.hid (wSpoil W1 (H.out.1.belowW HW1.out))
    clear HC
    go_wp2_with fail
    refine HCC.out.mono ?_
    rintro e W2 hr2
    obtain ⟨rfl, hr2⟩ := hr2
    have HE := Lib.hid hr2
    clear hr2 HCC
    go_wp2_with fail
    first
      | go_end0
      | refine bodyPost_ret (results_none rfl _ _ _) rfl ?_
    rw [H.out.2]
    exact PutR.after HW1.out ⟨rfl, HE.out⟩
theorem putOutput_any (w : World) {B g : Nat} {v : Value} {st : Option (List UInt8)} (o : Ot) (hT : Stays g w v fun W => OtOk W o) (hi : ∀ x ∈ o.ns, NdIn x) (h : WrO W.WSt w B g v st) (hx : sz st + 123 * cntO o ≤ 700000) :
  Calls Tryz.prog 74 #[.pointer (some ⟨g, 0, none⟩), .agg (otC o)] w (PutR W.WSt w B g v (if rightOB o then outS st o else none)) := by
 have hf := hT.now
 obtain ⟨s3, hs3⟩ : ∃ s, s = (if rightOB o then outS st o else none) := ⟨_, rfl⟩
 obtain ⟨ov, hov⟩ : ∃ y, y = otC o := ⟨_, rfl⟩
 have HC : Hid (∀ V, Below w.heap.size w V → Calls Tryz.prog 138 #[.pointer (some ⟨g, 0, none⟩), .agg ov, .func (Fn.func 13) #[] #[], .func (Fn.func 139) #[] #[]] V (PutR W.WSt V B g v s3)) := Lib.hid fun V hb => by
  rw [hs3, hov]; exact putOutputG_any V o (hT.on (Lk.of_below hb)) hi (h.belowW hb) hx
 have hi1 : (Tryz.prog.info? 35).map (·.size) = some ov.size := by rw [hov, otC_size o hf.ah hf.dh]; exact info_output
 have hL := Lies.new w ov 35
 have hb : Below w.heap.size w (w.alloc (.cells ov 35)) := (Below.refl _ _).alloc (Nat.le_refl _) _
 have HI := Lib.hid hi1
 rw [← hs3, ← hov]
 clear hT h hx hf hs3 hov hi1 hi
 obtain ⟨W0, HW⟩ : ∃ W0, w.alloc (.cells ov 35) = W0 := ⟨_, rfl⟩
 go_enter Tryz.func74, Tryz.ntmps74
 go_upto_region 1 with fail
 rw [HW] at hL hb
 clear HW
 obtain ⟨q, hq⟩ : ∃ q, q = w.heap.size := ⟨_, rfl⟩
 rw [← hq] at hL ⊢
 clear hq
 have HB := Lib.hid (And.intro hb hL)
 clear hb hL
 go_wp2_with (first
  | (at_builtin; fail)
  | (refine wpList_load_row rfl 35 _ rfl q rfl 35 ov (0, 0) _ (HB.out.2) Tryz.underlying35 rfl HI.out ?_))
 refine (HC.out _ HB.out.1).mono ?_
 rintro e W2 hr2
 obtain ⟨rfl, hr2⟩ := hr2
 have HE := Lib.hid hr2
 clear hr2 HC
 go_wp2_with fail
 go_end0
 exact PutR.after HB.out.1 ⟨rfl, HE.out⟩
theorem putValueG_any (w : World) {B g : Nat} {v : Value} {st : Option (List UInt8)} (x : Va) (hT : Stays g w v fun W => Row W x.pa x.l) (h : WrO W.WSt w B g v st) (hx : sz st + 57 * cntV x ≤ 700000) :
    Calls Tryz.prog 183 #[.pointer (some ⟨g, 0, none⟩), .agg (vaC x), .func (Fn.func 63) #[] #[], .func (Fn.func 184) #[] #[]] w (PutR W.WSt w B g v (if rightV x then valS st x else none)) := by
  have hf := hT.now
  obtain ⟨r, hrb⟩ : ∃ r, r = rightV x := ⟨_, rfl⟩
  obtain ⟨s2, hs2⟩ : ∃ s, s = valS st x := ⟨_, rfl⟩
  obtain ⟨s3, hs3⟩ : ∃ s, s = (if r then s2 else none) := ⟨_, rfl⟩
  obtain ⟨ov, hov⟩ : ∃ y, y = vaC x := ⟨_, rfl⟩
  have hf1 := T.callK 63 Tryz.f63 Tryz.func63 (by kernel_rfl) (by kernel_rfl)
  have hf2 := T.callK 184 Tryz.f184 Tryz.func184 (by kernel_rfl) (by kernel_rfl)
  have HR : Hid (∀ V, Below w.heap.size w V → Calls Tryz.prog 63 #[.agg ov] V fun e w' => e = .returned (.bool r) ∧ Below V.heap.size V w') := Lib.hid fun V hb => by
    have hf := (hT.on (Lk.of_below hb)).now
    rw [hrb, hov]; exact right_any V x.coin x.pa x.l x.c hf
  have HC : Hid (r = true → ∀ V, Below w.heap.size w V → Calls Tryz.prog 184 #[.agg #[.pointer (some ⟨g, 0, none⟩)], .agg ov] V (PutR W.WSt V B g v s2)) := Lib.hid fun hr V hb => by
    have hS := hT.on (Lk.of_below hb)
    have hw := h.belowW hb
    rw [hrb] at hr
    rw [hs2, hov]; exact putterValue_any V x hS hw hx
  have hi1 : (Tryz.prog.info? 27).map (·.size) = some ov.size := by rw [hov, vaC_size x]; exact info_value
  have hL := Lies.new w ov 27
  have hb : Below w.heap.size w (w.alloc (.cells ov 27)) := (Below.refl _ _).alloc (Nat.le_refl _) _
  have HI := Lib.hid hi1
  rw [← hrb, ← hs2, ← hs3, ← hov]
  have H := Lib.hid (And.intro h hs3)
  clear hT h hx hf hrb hs2 hs3 hov hi1
  obtain ⟨W0, HW⟩ : ∃ W0, w.alloc (.cells ov 27) = W0 := ⟨_, rfl⟩
  go_enter Tryz.func183, Tryz.ntmps183
  go_upto_region 1 with fail
  rw [HW] at hL hb
  clear HW
  obtain ⟨q, hq⟩ : ∃ q, q = w.heap.size := ⟨_, rfl⟩
  rw [← hq] at hL ⊢
  clear hq
  have HB := Lib.hid (And.intro hb hL)
  clear hb hL
  go_wp2_with (first
    | (at_builtin; fail)
    | (refine wpList_load_row rfl 27 _ rfl q rfl 27 ov (0, 0) _ (HB.out.2) Tryz.underlying27 rfl HI.out ?_))
  refine (HR.out _ HB.out.1).mono ?_
  rintro e W1 ⟨rfl, hb1⟩
  have hbw := HB.out.1.trans (hb1.mono HB.out.1.size)
  have HL1 := Lib.hid (HB.out.2.below hb1 HB.out.2.lt)
  have HW1 := Lib.hid hbw
  clear hb1 hbw HR
  cases r with
  | true =>
    have HCC := Lib.hid (HC.out rfl W1 HW1.out)
    clear HC
    go_wp2_with (first
      | (at_builtin; fail)
      | (refine wpList_load_row rfl 27 _ rfl q rfl 27 ov (0, 0) _ (HL1.out) Tryz.underlying27 rfl HI.out ?_))
    refine HCC.out.mono ?_
    rintro e W2 hr2
    obtain ⟨rfl, hr2⟩ := hr2
    have HE := Lib.hid hr2
    clear hr2 HCC
    go_wp2_with fail
    first
      | go_end0
      | refine bodyPost_ret (results_none rfl _ _ _) rfl ?_
    rw [H.out.2]
    exact PutR.after HW1.out ⟨rfl, HE.out⟩
  | false =>
    have HCC := Lib.hid (wSpoil W1 (H.out.1.belowW HW1.out))
    clear HC
    go_wp2_with fail
    refine HCC.out.mono ?_
    rintro e W2 hr2
    obtain ⟨rfl, hr2⟩ := hr2
    have HE := Lib.hid hr2
    clear hr2 HCC
    go_wp2_with fail
    first
      | go_end0
      | refine bodyPost_ret (results_none rfl _ _ _) rfl ?_
    rw [H.out.2]
    exact PutR.after HW1.out ⟨rfl, HE.out⟩
theorem putValue_any (w : World) {B g : Nat} {v : Value} {st : Option (List UInt8)} (x : Va) (hT : Stays g w v fun W => Row W x.pa x.l) (h : WrO W.WSt w B g v st) (hx : sz st + 57 * cntV x ≤ 700000) :
  Calls Tryz.prog 112 #[.pointer (some ⟨g, 0, none⟩), .agg (vaC x)] w (PutR W.WSt w B g v (if rightV x then valS st x else none)) := by
 have hf := hT.now
 obtain ⟨s3, hs3⟩ : ∃ s, s = (if rightV x then valS st x else none) := ⟨_, rfl⟩
 obtain ⟨ov, hov⟩ : ∃ y, y = vaC x := ⟨_, rfl⟩
 have HC : Hid (∀ V, Below w.heap.size w V → Calls Tryz.prog 183 #[.pointer (some ⟨g, 0, none⟩), .agg ov, .func (Fn.func 63) #[] #[], .func (Fn.func 184) #[] #[]] V (PutR W.WSt V B g v s3)) := Lib.hid fun V hb => by
  rw [hs3, hov]; exact putValueG_any V x (hT.on (Lk.of_below hb))  (h.belowW hb) hx
 have hi1 : (Tryz.prog.info? 27).map (·.size) = some ov.size := by rw [hov, vaC_size x]; exact info_value
 have hL := Lies.new w ov 27
 have hb : Below w.heap.size w (w.alloc (.cells ov 27)) := (Below.refl _ _).alloc (Nat.le_refl _) _
 have HI := Lib.hid hi1
 rw [← hs3, ← hov]
 clear hT h hx hf hs3 hov hi1
 obtain ⟨W0, HW⟩ : ∃ W0, w.alloc (.cells ov 27) = W0 := ⟨_, rfl⟩
 go_enter Tryz.func112, Tryz.ntmps112
 go_upto_region 1 with fail
 rw [HW] at hL hb
 clear HW
 obtain ⟨q, hq⟩ : ∃ q, q = w.heap.size := ⟨_, rfl⟩
 rw [← hq] at hL ⊢
 clear hq
 have HB := Lib.hid (And.intro hb hL)
 clear hb hL
 go_wp2_with (first
  | (at_builtin; fail)
  | (refine wpList_load_row rfl 27 _ rfl q rfl 27 ov (0, 0) _ (HB.out.2) Tryz.underlying27 rfl HI.out ?_))
 refine (HC.out _ HB.out.1).mono ?_
 rintro e W2 hr2
 obtain ⟨rfl, hr2⟩ := hr2
 have HE := Lib.hid hr2
 clear hr2 HC
 go_wp2_with fail
 go_end0
 exact PutR.after HB.out.1 ⟨rfl, HE.out⟩
theorem putRefG_any (w : World) {B g : Nat} {v : Value} {st : Option (List UInt8)} (y0 : Rf) (hl : y0.tx.length = 32) (hT : Stays g w v fun _ => True) (h : WrO W.WSt w B g v st) (hx : sz st ≤ 700000) :
    Calls Tryz.prog 187 #[.pointer (some ⟨g, 0, none⟩), .agg (refC y0), .func (Fn.func 68) #[] #[], .func (Fn.func 188) #[] #[]] w (PutR W.WSt w B g v (if rightRefB y0 then refS st y0 else none)) := by
  have hf := hT.now
  obtain ⟨r, hrb⟩ : ∃ r, r = rightRefB y0 := ⟨_, rfl⟩
  obtain ⟨s2, hs2⟩ : ∃ s, s = refS st y0 := ⟨_, rfl⟩
  obtain ⟨s3, hs3⟩ : ∃ s, s = (if r then s2 else none) := ⟨_, rfl⟩
  obtain ⟨ov, hov⟩ : ∃ y, y = refC y0 := ⟨_, rfl⟩
  have hf1 := T.callK 68 Tryz.f68 Tryz.func68 (by kernel_rfl) (by kernel_rfl)
  have hf2 := T.callK 188 Tryz.f188 Tryz.func188 (by kernel_rfl) (by kernel_rfl)
  have HR : Hid (∀ V, Below w.heap.size w V → Calls Tryz.prog 68 #[.agg ov] V fun e w' => e = .returned (.bool r) ∧ Below V.heap.size V w') := Lib.hid fun V hb => by
    have hf := (hT.on (Lk.of_below hb)).now
    rw [hrb, hov]; exact rightRef_any V y0 hl
  have HC : Hid (r = true → ∀ V, Below w.heap.size w V → Calls Tryz.prog 188 #[.agg #[.pointer (some ⟨g, 0, none⟩)], .agg ov] V (PutR W.WSt V B g v s2)) := Lib.hid fun hr V hb => by
    have hS := hT.on (Lk.of_below hb)
    have hw := h.belowW hb
    rw [hrb] at hr
    rw [hs2, hov]; exact putterRef_any V y0 hl hw hx
  have hi1 : (Tryz.prog.info? 37).map (·.size) = some ov.size := by rw [hov, refC_size y0 hl]; exact info_ref
  have hL := Lies.new w ov 37
  have hb : Below w.heap.size w (w.alloc (.cells ov 37)) := (Below.refl _ _).alloc (Nat.le_refl _) _
  have HI := Lib.hid hi1
  rw [← hrb, ← hs2, ← hs3, ← hov]
  have H := Lib.hid (And.intro h hs3)
  clear hT h hx hf hrb hs2 hs3 hov hi1
  obtain ⟨W0, HW⟩ : ∃ W0, w.alloc (.cells ov 37) = W0 := ⟨_, rfl⟩
  go_enter Tryz.func187, Tryz.ntmps187
  go_upto_region 1 with fail
  rw [HW] at hL hb
  clear HW
  obtain ⟨q, hq⟩ : ∃ q, q = w.heap.size := ⟨_, rfl⟩
  rw [← hq] at hL ⊢
  clear hq
  have HB := Lib.hid (And.intro hb hL)
  clear hb hL
  go_wp2_with (first
    | (at_builtin; fail)
    | (refine wpList_load_row rfl 37 _ rfl q rfl 37 ov (0, 0) _ (HB.out.2) Tryz.underlying37 rfl HI.out ?_))
  refine (HR.out _ HB.out.1).mono ?_
  rintro e W1 ⟨rfl, hb1⟩
  have hbw := HB.out.1.trans (hb1.mono HB.out.1.size)
  have HL1 := Lib.hid (HB.out.2.below hb1 HB.out.2.lt)
  have HW1 := Lib.hid hbw
  clear hb1 hbw HR
  cases r with
  | true =>
    have HCC := Lib.hid (HC.out rfl W1 HW1.out)
    clear HC
    go_wp2_with (first
      | (at_builtin; fail)
      | (refine wpList_load_row rfl 37 _ rfl q rfl 37 ov (0, 0) _ (HL1.out) Tryz.underlying37 rfl HI.out ?_))
    refine HCC.out.mono ?_
    rintro e W2 hr2
    obtain ⟨rfl, hr2⟩ := hr2
    have HE := Lib.hid hr2
    clear hr2 HCC
    go_wp2_with fail
    first
      | go_end0
      | refine bodyPost_ret (results_none rfl _ _ _) rfl ?_
    rw [H.out.2]
    exact PutR.after HW1.out ⟨rfl, HE.out⟩
  | false =>
    have HCC := Lib.hid (wSpoil W1 (H.out.1.belowW HW1.out))
    clear HC
    go_wp2_with fail
    refine HCC.out.mono ?_
    rintro e W2 hr2
    obtain ⟨rfl, hr2⟩ := hr2
    have HE := Lib.hid hr2
    clear hr2 HCC
    go_wp2_with fail
    first
      | go_end0
      | refine bodyPost_ret (results_none rfl _ _ _) rfl ?_
    rw [H.out.2]
    exact PutR.after HW1.out ⟨rfl, HE.out⟩
theorem putRef_any (w : World) {B g : Nat} {v : Value} {st : Option (List UInt8)} (y0 : Rf) (hl : y0.tx.length = 32) (hT : Stays g w v fun _ => True) (h : WrO W.WSt w B g v st) (hx : sz st ≤ 700000) :
  Calls Tryz.prog 114 #[.pointer (some ⟨g, 0, none⟩), .agg (refC y0)] w (PutR W.WSt w B g v (if rightRefB y0 then refS st y0 else none)) := by
 have hf := hT.now
 obtain ⟨s3, hs3⟩ : ∃ s, s = (if rightRefB y0 then refS st y0 else none) := ⟨_, rfl⟩
 obtain ⟨ov, hov⟩ : ∃ y, y = refC y0 := ⟨_, rfl⟩
 have HC : Hid (∀ V, Below w.heap.size w V → Calls Tryz.prog 187 #[.pointer (some ⟨g, 0, none⟩), .agg ov, .func (Fn.func 68) #[] #[], .func (Fn.func 188) #[] #[]] V (PutR W.WSt V B g v s3)) := Lib.hid fun V hb => by
  rw [hs3, hov]; exact putRefG_any V y0 hl (hT.on (Lk.of_below hb))  (h.belowW hb) hx
 have hi1 : (Tryz.prog.info? 37).map (·.size) = some ov.size := by rw [hov, refC_size y0 hl]; exact info_ref
 have hL := Lies.new w ov 37
 have hb : Below w.heap.size w (w.alloc (.cells ov 37)) := (Below.refl _ _).alloc (Nat.le_refl _) _
 have HI := Lib.hid hi1
 rw [← hs3, ← hov]
 clear hT h hx hf hs3 hov hi1
 obtain ⟨W0, HW⟩ : ∃ W0, w.alloc (.cells ov 37) = W0 := ⟨_, rfl⟩
 go_enter Tryz.func114, Tryz.ntmps114
 go_upto_region 1 with fail
 rw [HW] at hL hb
 clear HW
 obtain ⟨q, hq⟩ : ∃ q, q = w.heap.size := ⟨_, rfl⟩
 rw [← hq] at hL ⊢
 clear hq
 have HB := Lib.hid (And.intro hb hL)
 clear hb hL
 go_wp2_with (first
  | (at_builtin; fail)
  | (refine wpList_load_row rfl 37 _ rfl q rfl 37 ov (0, 0) _ (HB.out.2) Tryz.underlying37 rfl HI.out ?_))
 refine (HC.out _ HB.out.1).mono ?_
 rintro e W2 hr2
 obtain ⟨rfl, hr2⟩ := hr2
 have HE := Lib.hid hr2
 clear hr2 HC
 go_wp2_with fail
 go_end0
 exact PutR.after HB.out.1 ⟨rfl, HE.out⟩
end Go.Proofs.YtilbbemdinpjcaaGreat.P
namespace Go.Proofs.YtilbbemdinpjcaaGreat.P
set_option maxRecDepth 100000
open Go.RowKit
def bs : Option (List UInt8) → List UInt8
 | none => []
 | some l => l
theorem newW_any (w : World) : Calls Tryz.prog 36 #[] w fun e w' => e = .returned (.pointer (some ⟨w.heap.size, 0, none⟩)) ∧ (∃ v, WrO W.WSt w' w.heap.size w.heap.size v (some [])) ∧ Below w.heap.size w w' :=
  (W.newwriter_any w).mono fun e w' ⟨h1, h2, h3⟩ => by
    obtain ⟨v, hv⟩ := h2.wrv
    exact ⟨h1, ⟨v, ⟨hv, W.own_block hv.2.1, hv.2.2.1, hv.1.lt, Nat.le_refl _⟩⟩, h3⟩
theorem bytesW_any (w : World) {B g : Nat} {v : Value} {st : Option (List UInt8)} (h : WrO W.WSt w B g v st) (hx : sz st ≤ 2000000) :
    Calls Tryz.prog 38 #[.pointer (some ⟨g, 0, none⟩)] w fun e w' => ∃ u er, e = .returned (.tuple #[u, .int .i64 er]) ∧ er = (if st.isNone then 2 else 0) ∧ w'.ownsRow w.heap.size 5 1 u (bs st).length (B8 (bs st)).toList ∧ Below w.heap.size w w' := by
  cases st with
  | none =>
    refine (W.wbytes_spoilt w B g v h.s).mono ?_
    rintro e w' ⟨rfl, rfl⟩
    exact ⟨_, _, rfl, rfl, World.ownsRow_nil _ _ _ _, Below.refl _ _⟩
  | some l => exact (W.wbytes_good w B g v l h.s hx).mono fun e w' ⟨u, h1, h2⟩ => ⟨u, _, h1, rfl, h2⟩
theorem stays_low {S : World → Nat → Nat → Value → Option (List UInt8) → Prop} {w0 w : World} {B g : Nat} {v : Value} {st : Option (List UInt8)} {P : World → Prop} (h : WrO S w B g v st) (hb : Below B w0 w) (hP : ∀ V, Below B w0 V → P V) : Stays g w v P :=
 fun V _ hl => hP V (hb.trans (hl.low h.le (fun x e => (h.own x e).1) (by have := h.le; have := h.lt; omega)))
theorem own_len {w : World} {base n : Nat} {u : Value} {xs : List Value} (h : w.ownsRow base 5 1 u n xs) : ∃ a c, u = .slice a n c := by
 rcases h.2 with ⟨rfl, rfl⟩ | ⟨k, cap, cur, rfl, _⟩
 ·
  exact ⟨_, _, rfl⟩
 ·
  exact ⟨_, _, rfl⟩
theorem long_any (w : World) (o : Ot) (hT : OtOk w o) (hi : ∀ x ∈ o.ns, NdIn x) (hx : 123 * cntO o ≤ 600000) :
  Calls Tryz.prog 19 #[.agg (otC o)] w fun e w' => e = .returned (.int .i64 (sz (if rightOB o then outS (some []) o else none))) ∧ Below w.heap.size w w' := by
 obtain ⟨ov, hov⟩ : ∃ y, y = otC o := ⟨_, rfl⟩
 obtain ⟨s1, hs1⟩ : ∃ s, s = (if rightOB o then outS (some []) o else none) := ⟨_, rfl⟩
 have hz1 : sz s1 ≤ 600000 := by
  have h1 := sz_out (some []) o hT.ah hT.dh (fun a ha => (hT.v.2.2.2.1 a ha).1)
  rw [hs1]
  split
  ·
   simp only [sz, List.length_nil] at h1 ⊢; omega
  ·
   exact Nat.zero_le _
 have hi1 : (Tryz.prog.info? 35).map (·.size) = some ov.size := by rw [hov, otC_size o hT.ah hT.dh]; exact info_output
 have hL := Lies.new w ov 35
 have hb : Below w.heap.size w (w.alloc (.cells ov 35)) := (Below.refl _ _).alloc (Nat.le_refl _) _
 have HI := Lib.hid hi1
 rw [← hov, ← hs1]
 have H := Lib.hid (And.intro hT (And.intro hi (And.intro hx (And.intro hz1 (And.intro hs1 hov)))))
 clear hT hi hx hz1 hs1 hov hi1
 obtain ⟨W0, HW⟩ : ∃ W0, w.alloc (.cells ov 35) = W0 := ⟨_, rfl⟩
 go_enter Tryz.func19, Tryz.ntmps19
 go_upto_region 1 with fail
 rw [HW] at hL hb
 clear HW
 obtain ⟨q, hq⟩ : ∃ q, q = w.heap.size := ⟨_, rfl⟩
 rw [← hq] at hL ⊢
 have HB := Lib.hid (And.intro hb (And.intro hL hq))
 clear hb hL hq
 go_wp2_with fail
 refine (newW_any W0).mono ?_
 rintro e W1 ⟨rfl, ⟨v1, hw1⟩, hb1⟩
 have hL1 := HB.out.2.1.below hb1 HB.out.2.1.lt
 have hst : Stays W0.heap.size W1 v1 fun V => OtOk V o := stays_low hw1 hb1 (w0 := W0) fun V hV => (H.out.1.below HB.out.1 (Nat.le_refl _)).below hV (Nat.le_refl _)
 have HC := Lib.hid (putOutput_any W1 o hst H.out.2.1 hw1 (by simp only [sz, List.length_nil]; have := H.out.2.2.1; omega))
 rw [← H.out.2.2.2.2.1, ← H.out.2.2.2.2.2] at HC
 have H1 := Lib.hid (And.intro hL1 (And.intro hb1 hw1))
 clear hw1 hb1 hL1 hst
 go_wp2_with (first
  | (at_builtin; fail)
  | (refine wpList_load_row rfl 35 _ rfl q rfl 35 ov (0, 0) _ (H1.out.1) Tryz.underlying35 rfl HI.out ?_))
 refine HC.out.mono ?_
 rintro e W2 ⟨rfl, v2, hw2, hk2⟩
 have hb2 : Below W0.heap.size W1 W2 := hk2.low (Nat.le_refl _) (fun x e => (H1.out.2.2.own x e).1) H1.out.2.1.size
 have HC2 := Lib.hid (bytesW_any W2 hw2 (by have := H.out.2.2.2.1; omega))
 have H2 := Lib.hid (HB.out.1.trans ((H1.out.2.1.trans hb2).mono HB.out.1.size))
 clear hw2 hk2 hb2 HC
 go_wp2_with fail
 refine HC2.out.mono ?_
 rintro e W3 ⟨u, er, rfl, her, hown, hb3⟩
 clear her
 obtain ⟨a, c, rfl⟩ := own_len hown
 have H3 := Lib.hid (H2.out.trans (hb3.mono H2.out.size))
 clear hown hb3 HC2
 go_wp2_with fail
 go_ret
 refine ⟨?_, H3.out⟩
 cases s1 <;> rfl
end Go.Proofs.YtilbbemdinpjcaaGreat.P
namespace Go.Proofs.YtilbbemdinpjcaaGreat.P
set_option maxRecDepth 100000
open Go.RowKit
def GotR (g k : Nat) (xs : List UInt8) (c : Nat) (w : World) (v : Value) (st : Option Nat) (e : Ending) (w' : World) : Prop := e = .returned v ∧ W.RSt w' g k xs c st ∧ W.Only g w w' none
theorem GotR.after {g k : Nat} {xs : List UInt8} {c : Nat} {w w1 w' : World} {v : Value} {st : Option Nat} {e : Ending} (hb : Below w.heap.size w w1) (h : GotR g k xs c w1 v st e w') : GotR g k xs c w v st e w' := ⟨h.1, h.2.1, (W.only_below hb).trans0 h.2.2⟩
theorem onlyCell {g : Nat} {w w' : World} (h : W.Only g w w' none) {b o : Nat} (hb : b < w.heap.size) (hne : b ≠ g) : w'.cell? ⟨b, o, none⟩ = w.cell? ⟨b, o, none⟩ := W.Only.cell h hb hne
theorem info_node : (Tryz.prog.info? 72).map (·.size) = some 5 := by kernel_rfl
theorem got_row {g k : Nat} {xs : List UInt8} {c : Nat} {w W0 w1 : World} {st : Option Nat} {q : Nat} {v : Value} {cs : Array Value} (hb : Below w.heap.size w W0) (hq : q ≠ g) (hw : w.heap.size ≤ q) (hl : g < w.heap.size ∧ k < w.heap.size ∧ k ≠ g) (hr : W.RSt w1 g k xs c st) (ho : W.Only g W0 w1 none) : GotR g k xs c w v st (.returned v) (w1.setRow q cs) := by
 refine ⟨rfl, ?_, W.only_row ((W.only_below hb).trans0 ho) hw cs⟩
 have hqk : q ≠ k := by omega
 cases st with
 | none => obtain ⟨a, h⟩ := hr; exact ⟨a, h.row q cs hq hqk⟩
 | some a => exact ⟨hr.1, hr.2.row q cs hq hqk⟩
def zNode : Array Value := #[.int .i64 0, .int .i64 0, .int .u64 0, .string ⟨#[]⟩, .int .i64 0]
theorem gc1_any (w : World) (g k : Nat) (xs : List UInt8) (c : Nat) (st : Option Nat) (p : Nat) (hp : w.cell? ⟨p, 0, none⟩ = some (.pointer (some ⟨g, 0, none⟩))) (hl : p < w.heap.size) (h : W.RSt w g k xs c st) :
  Calls Tryz.prog 250 #[.pointer (some ⟨p, 0, none⟩)] w (GotR g k xs c w (.agg #[.int .i64 0, .int .i64 0, .int .u64 0, .string ⟨#[]⟩, .int .i64 (W.numV xs st 2)]) (W.numS xs st 2)) := by
 have hA := Lies.new w zNode 72
 have hb : Below w.heap.size w (w.alloc (.cells zNode 72)) := (Below.refl _ _).alloc (Nat.le_refl _) _
 have H := Lib.hid (And.intro h (And.intro hp hl))
 clear h hp hl
 unfold zNode at hA hb
 obtain ⟨nv, hnv⟩ : ∃ n, n = W.numV xs st 2 := ⟨_, rfl⟩
 have HV := Lib.hid hnv
 rw [← hnv]
 clear hnv
 go_enter Tryz.func250, Tryz.ntmps250
 go_upto_region 1 with fail
 generalize w.alloc (.cells #[.int .i64 0, .int .i64 0, .int .u64 0, .string ⟨#[]⟩, .int .i64 0] 72) = W0 at hA hb ⊢
 obtain ⟨q, hq⟩ : ∃ q, q = w.heap.size := ⟨_, rfl⟩
 rw [← hq] at hA ⊢
 have cp := (hb.cell (p := ⟨p, 0, none⟩) H.out.2.2).trans H.out.2.1
 have HC := Lib.hid (W.ask53_st W0 g k xs c st (H.out.1.below hb))
 rw [← HV.out] at HC
 have hqg : q ≠ g := by have := H.out.1.lt; omega
 have HB := Lib.hid (And.intro hb (And.intro hA (And.intro hqg hq)))
 clear hA hb hqg hq
 go_wp2_with fail
 refine HC.out.mono ?_
 rintro e w1 ⟨rfl, hr, ho⟩
 have HR := Lib.hid (And.intro hr ho)
 have HA1 := Lib.hid (ho.lies HB.out.2.1 HB.out.2.2.1)
 clear hr ho cp HC
 go_wp2_with (first
  | (at_builtin; fail)
  | (refine wpList_store_row rfl 72 _ _ rfl q #[.int .i64 0, .int .i64 0, .int .u64 0, .string ⟨#[]⟩, .int .i64 (nv)] rfl rfl 72 _ HA1.out info_node rfl (by simp [Value.oneCell']) ?_))
 exact bodyPost_ret (v := .agg #[.int .i64 0, .int .i64 0, .int .u64 0, .string ⟨#[]⟩, .int .i64 (nv)]) (results_cell_row (p := 1) (ty := 72) (by kernel_rfl) _ _ q 72 #[.int .i64 0, .int .i64 0, .int .u64 0, .string ⟨#[]⟩, .int .i64 (nv)] (0, 0) _ rfl (HA1.out.setRow _) Tryz.underlying72 rfl info_node) rfl (got_row HB.out.1 HB.out.2.2.1 (by rw [HB.out.2.2.2]; exact Nat.le_refl _) (H.out.1.lt) HR.out.1 HR.out.2)
theorem gc2_any (w : World) (g k : Nat) (xs : List UInt8) (c : Nat) (st : Option Nat) (p : Nat) (hp : w.cell? ⟨p, 0, none⟩ = some (.pointer (some ⟨g, 0, none⟩))) (hl : p < w.heap.size) (h : W.RSt w g k xs c st) :
  Calls Tryz.prog 252 #[.pointer (some ⟨p, 0, none⟩)] w (GotR g k xs c w (.agg #[.int .i64 0, .int .i64 (IntKind.i64.wrap (W.numV xs st 8)), .int .u64 0, .string ⟨#[]⟩, .int .i64 0]) (W.numS xs st 8)) := by
 have hA := Lies.new w zNode 72
 have hb : Below w.heap.size w (w.alloc (.cells zNode 72)) := (Below.refl _ _).alloc (Nat.le_refl _) _
 have H := Lib.hid (And.intro h (And.intro hp hl))
 clear h hp hl
 unfold zNode at hA hb
 obtain ⟨nv, hnv⟩ : ∃ n, n = IntKind.i64.wrap (W.numV xs st 8) := ⟨_, rfl⟩
 have HV := Lib.hid hnv
 rw [← hnv]
 clear hnv
 go_enter Tryz.func252, Tryz.ntmps252
 go_upto_region 1 with fail
 generalize w.alloc (.cells #[.int .i64 0, .int .i64 0, .int .u64 0, .string ⟨#[]⟩, .int .i64 0] 72) = W0 at hA hb ⊢
 obtain ⟨q, hq⟩ : ∃ q, q = w.heap.size := ⟨_, rfl⟩
 rw [← hq] at hA ⊢
 have cp := (hb.cell (p := ⟨p, 0, none⟩) H.out.2.2).trans H.out.2.1
 have HC := Lib.hid (W.ask56_st W0 g k xs c st (H.out.1.below hb))
 rw [← HV.out] at HC
 have hqg : q ≠ g := by have := H.out.1.lt; omega
 have HB := Lib.hid (And.intro hb (And.intro hA (And.intro hqg hq)))
 clear hA hb hqg hq
 go_wp2_with fail
 refine HC.out.mono ?_
 rintro e w1 ⟨rfl, hr, ho⟩
 have HR := Lib.hid (And.intro hr ho)
 have HA1 := Lib.hid (ho.lies HB.out.2.1 HB.out.2.2.1)
 clear hr ho cp HC
 go_wp2_with (first
  | (at_builtin; fail)
  | (refine wpList_store_row rfl 72 _ _ rfl q #[.int .i64 0, .int .i64 (nv), .int .u64 0, .string ⟨#[]⟩, .int .i64 0] rfl rfl 72 _ HA1.out info_node rfl (by simp [Value.oneCell']) ?_))
 exact bodyPost_ret (v := .agg #[.int .i64 0, .int .i64 (nv), .int .u64 0, .string ⟨#[]⟩, .int .i64 0]) (results_cell_row (p := 1) (ty := 72) (by kernel_rfl) _ _ q 72 #[.int .i64 0, .int .i64 (nv), .int .u64 0, .string ⟨#[]⟩, .int .i64 0] (0, 0) _ rfl (HA1.out.setRow _) Tryz.underlying72 rfl info_node) rfl (got_row HB.out.1 HB.out.2.2.1 (by rw [HB.out.2.2.2]; exact Nat.le_refl _) (H.out.1.lt) HR.out.1 HR.out.2)
theorem gc3_any (w : World) (g k : Nat) (xs : List UInt8) (c : Nat) (st : Option Nat) (p : Nat) (hp : w.cell? ⟨p, 0, none⟩ = some (.pointer (some ⟨g, 0, none⟩))) (hl : p < w.heap.size) (h : W.RSt w g k xs c st) :
  Calls Tryz.prog 253 #[.pointer (some ⟨p, 0, none⟩)] w (GotR g k xs c w (.agg #[.int .i64 0, .int .i64 0, .int .u64 0, .string ((⟨(W.textV xs st 200).toArray⟩ : ByteArray)), .int .i64 0]) (W.textS xs st 200)) := by
 have hA := Lies.new w zNode 72
 have hb : Below w.heap.size w (w.alloc (.cells zNode 72)) := (Below.refl _ _).alloc (Nat.le_refl _) _
 have H := Lib.hid (And.intro h (And.intro hp hl))
 clear h hp hl
 unfold zNode at hA hb
 obtain ⟨nv, hnv⟩ : ∃ n, n = (⟨(W.textV xs st 200).toArray⟩ : ByteArray) := ⟨_, rfl⟩
 have HV := Lib.hid hnv
 rw [← hnv]
 clear hnv
 go_enter Tryz.func253, Tryz.ntmps253
 go_upto_region 1 with fail
 generalize w.alloc (.cells #[.int .i64 0, .int .i64 0, .int .u64 0, .string ⟨#[]⟩, .int .i64 0] 72) = W0 at hA hb ⊢
 obtain ⟨q, hq⟩ : ∃ q, q = w.heap.size := ⟨_, rfl⟩
 rw [← hq] at hA ⊢
 have cp := (hb.cell (p := ⟨p, 0, none⟩) H.out.2.2).trans H.out.2.1
 have HC := Lib.hid (W.text_rst W0 g k xs c st 200 (H.out.1.below hb))
 rw [← HV.out] at HC
 have hqg : q ≠ g := by have := H.out.1.lt; omega
 have HB := Lib.hid (And.intro hb (And.intro hA (And.intro hqg hq)))
 clear hA hb hqg hq
 go_wp2_with fail
 refine HC.out.mono ?_
 rintro e w1 ⟨rfl, hr, ho⟩
 have HR := Lib.hid (And.intro hr ho)
 have HA1 := Lib.hid (ho.lies HB.out.2.1 HB.out.2.2.1)
 clear hr ho cp HC
 go_wp2_with (first
  | (at_builtin; fail)
  | (refine wpList_store_row rfl 72 _ _ rfl q #[.int .i64 0, .int .i64 0, .int .u64 0, .string (nv), .int .i64 0] rfl rfl 72 _ HA1.out info_node rfl (by simp [Value.oneCell']) ?_))
 exact bodyPost_ret (v := .agg #[.int .i64 0, .int .i64 0, .int .u64 0, .string (nv), .int .i64 0]) (results_cell_row (p := 1) (ty := 72) (by kernel_rfl) _ _ q 72 #[.int .i64 0, .int .i64 0, .int .u64 0, .string (nv), .int .i64 0] (0, 0) _ rfl (HA1.out.setRow _) Tryz.underlying72 rfl info_node) rfl (got_row HB.out.1 HB.out.2.2.1 (by rw [HB.out.2.2.2]; exact Nat.le_refl _) (H.out.1.lt) HR.out.1 HR.out.2)
theorem gc4_any (w : World) (g k : Nat) (xs : List UInt8) (c : Nat) (st : Option Nat) (p : Nat) (hp : w.cell? ⟨p, 0, none⟩ = some (.pointer (some ⟨g, 0, none⟩))) (hl : p < w.heap.size) (h : W.RSt w g k xs c st) :
  Calls Tryz.prog 255 #[.pointer (some ⟨p, 0, none⟩)] w (GotR g k xs c w (.agg #[.int .i64 0, .int .i64 0, .int .u64 (W.numV xs st 8), .string ⟨#[]⟩, .int .i64 0]) (W.numS xs st 8)) := by
 have hA := Lies.new w zNode 72
 have hb : Below w.heap.size w (w.alloc (.cells zNode 72)) := (Below.refl _ _).alloc (Nat.le_refl _) _
 have H := Lib.hid (And.intro h (And.intro hp hl))
 clear h hp hl
 unfold zNode at hA hb
 obtain ⟨nv, hnv⟩ : ∃ n, n = W.numV xs st 8 := ⟨_, rfl⟩
 have HV := Lib.hid hnv
 rw [← hnv]
 clear hnv
 go_enter Tryz.func255, Tryz.ntmps255
 go_upto_region 1 with fail
 generalize w.alloc (.cells #[.int .i64 0, .int .i64 0, .int .u64 0, .string ⟨#[]⟩, .int .i64 0] 72) = W0 at hA hb ⊢
 obtain ⟨q, hq⟩ : ∃ q, q = w.heap.size := ⟨_, rfl⟩
 rw [← hq] at hA ⊢
 have cp := (hb.cell (p := ⟨p, 0, none⟩) H.out.2.2).trans H.out.2.1
 have HC := Lib.hid (W.ask55_st W0 g k xs c st (H.out.1.below hb))
 rw [← HV.out] at HC
 have hqg : q ≠ g := by have := H.out.1.lt; omega
 have HB := Lib.hid (And.intro hb (And.intro hA (And.intro hqg hq)))
 clear hA hb hqg hq
 go_wp2_with fail
 refine HC.out.mono ?_
 rintro e w1 ⟨rfl, hr, ho⟩
 have HR := Lib.hid (And.intro hr ho)
 have HA1 := Lib.hid (ho.lies HB.out.2.1 HB.out.2.2.1)
 clear hr ho cp HC
 go_wp2_with (first
  | (at_builtin; fail)
  | (refine wpList_store_row rfl 72 _ _ rfl q #[.int .i64 0, .int .i64 0, .int .u64 (nv), .string ⟨#[]⟩, .int .i64 0] rfl rfl 72 _ HA1.out info_node rfl (by simp [Value.oneCell']) ?_))
 exact bodyPost_ret (v := .agg #[.int .i64 0, .int .i64 0, .int .u64 (nv), .string ⟨#[]⟩, .int .i64 0]) (results_cell_row (p := 1) (ty := 72) (by kernel_rfl) _ _ q 72 #[.int .i64 0, .int .i64 0, .int .u64 (nv), .string ⟨#[]⟩, .int .i64 0] (0, 0) _ rfl (HA1.out.setRow _) Tryz.underlying72 rfl info_node) rfl (got_row HB.out.1 HB.out.2.2.1 (by rw [HB.out.2.2.2]; exact Nat.le_refl _) (H.out.1.lt) HR.out.1 HR.out.2)
end Go.Proofs.YtilbbemdinpjcaaGreat.P
