/-
  pack: a new writer, its bytes; Long.
-/
import Derived.Test.YtilbbemdinpjcaaGreatJPd
import Derived.Deep.QuietTactic
import Derived.BigQuiet
import Derived.Test.YtilbbemdinpjcaaGreatJPu
import Derived.Test.YtilbbemdinpjcaaGreatJPr
import Derived.Test.YtilbbemdinpjcaaGreatJWPutIn
import Derived.Test.YtilbbemdinpjcaaGreatJWTwo
namespace Go.Proofs.YtilbbemdinpjcaaGreat.P
set_option maxRecDepth 100000
open Go.RowKit Go.Sort

/-- Two rows that are the same up to some place, and differ there. -/
theorem cmpB_at : ∀ (a b : List UInt8) (k : Nat), (∀ j, j < k → a.getD j 0 = b.getD j 0) → k < a.length → k < b.length → a.getD k 0 ≠ b.getD k 0 → cmpB a b ≠ 0 ∧ (cmpB a b < 0 ↔ (a.getD k 0).toNat < (b.getD k 0).toNat)
  | [], _, _, _, h, _, _ => by simp at h
  | _ :: _, [], _, _, _, h, _ => by simp at h
  | x :: a, y :: b, 0, _, _, _, hne => by
    have hne : x ≠ y := by simpa using hne
    have hx : (x :: a).getD 0 0 = x := rfl
    have hy : (y :: b).getD 0 0 = y := rfl
    rw [hx, hy]
    unfold cmpB
    rcases u8_tri x y with h | h | h
    · rw [if_pos h]
      exact ⟨by decide, fun _ => UInt8.lt_iff_toNat_lt.1 h, fun _ => by decide⟩
    · exact absurd h hne
    · rw [if_neg (u8_asymm h), if_pos h]
      exact ⟨by decide, fun e => absurd e (by decide), fun e => absurd (UInt8.lt_iff_toNat_lt.2 e) (u8_asymm h)⟩
  | x :: a, y :: b, k + 1, hj, h1, h2, hne => by
    have h0 : x = y := by simpa using hj 0 (by omega)
    subst h0
    have ih := cmpB_at a b k (fun j hjk => by simpa using hj (j + 1) (by omega)) (by simpa using h1) (by simpa using h2) (by simpa using hne)
    unfold cmpB
    rw [if_neg (u8_irrefl x), if_neg (u8_irrefl x)]
    simpa using ih
theorem same_all {a b : List UInt8} (ha : a.length = 32) (hb : b.length = 32) (h : ∀ j, j < 32 → a.getD j 0 = b.getD j 0) : a = b := by
  apply List.ext_getElem (by omega)
  intro i h1 h2
  have := h i (by omega)
  simpa [List.getD_eq_getElem?_getD, h1, h2] using this
set_option maxHeartbeats 2000000 in
theorem refLess_any (w : World) (a b : Rf) (ha : a.tx.length = 32) (hb : b.tx.length = 32) :
    Calls Tryz.prog 22 #[.agg (refC a), .agg (refC b)] w fun e w' => e = .returned (.bool (lessR a b)) ∧ Below w.heap.size w w' := by
  obtain ⟨va, hva⟩ : ∃ v, v = refC a := ⟨_, rfl⟩
  obtain ⟨vb, hvb⟩ : ∃ v, v = refC b := ⟨_, rfl⟩
  rw [← hva, ← hvb]
  have HA := Lib.hid (And.intro hva (And.intro hvb (And.intro ha hb)))
  clear hva hvb ha hb
  go_enter Tryz.func22, Tryz.ntmps22
  go_upto_region 1 with fail
  have hl1 : Lies ((w.alloc (.cells va 37)).alloc (.cells vb 37)) w.heap.size va 37 := (Lies.new _ _ _).alloc _
  have hl2 : Lies ((w.alloc (.cells va 37)).alloc (.cells vb 37)) (w.heap.size + 1) vb 37 := by
    have := Lies.new (w.alloc (.cells va 37)) vb 37
    simpa using this
  have hb0 : Below w.heap.size w ((w.alloc (.cells va 37)).alloc (.cells vb 37)) := ((Below.refl _ _).alloc (Nat.le_refl _) _).alloc (by simp) _
  generalize (w.alloc (.cells va 37)).alloc (.cells vb 37) = W0 at hl1 hl2 hb0 ⊢
  obtain ⟨g1, hg1⟩ : ∃ g, g = w.heap.size := ⟨_, rfl⟩
  obtain ⟨g2, hg2⟩ : ∃ g, g = w.heap.size + 1 := ⟨_, rfl⟩
  rw [← hg2] at hl2 ⊢
  rw [← hg1] at hl1 ⊢
  have HK : Hid (∀ V, Below W0.heap.size W0 V → (∀ j, j < 32 → V.cell? ⟨g1, j, none⟩ = some (.int .u8 (a.tx.getD j 0).toNat) ∧ V.cell? ⟨g2, j, none⟩ = some (.int .u8 (b.tx.getD j 0).toNat)) ∧ V.cell? ⟨g1, 32, none⟩ = some (.int .i64 a.place) ∧ V.cell? ⟨g2, 32, none⟩ = some (.int .i64 b.place)) := Lib.hid fun V hV => by
    have h1 := hl1.below hV hl1.lt
    have h2 := hl2.below hV hl2.lt
    rw [HA.out.1] at h1
    rw [HA.out.2.1] at h2
    exact ⟨fun j hj => ⟨h1.cell j (refC_get a HA.out.2.2.1 j hj), h2.cell j (refC_get b HA.out.2.2.2 j hj)⟩, h1.cell 32 (refC_place a HA.out.2.2.1), h2.cell 32 (refC_place b HA.out.2.2.2)⟩
  have HB := Lib.hid hb0
  clear hl1 hl2 hb0 hg1 hg2
  go_wp2_with fail
  go_loopw [5] (fun i W => ∃ k : Nat, k ≤ 32 ∧ i = .int .i64 k ∧ Below W0.heap.size W0 W ∧ ∀ j, j < k → a.tx.getD j 0 = b.tx.getD j 0) (fun i _ => 32 - (intOf i).toNat)
  case atStart => exact ⟨0, Nat.zero_le _, rfl, Below.refl _ _, fun j hj => absurd hj (by omega)⟩
  case round =>
    obtain ⟨k, hk, rfl, hbr, hall⟩ := hrel
    have m0 : (0 : Int) ≤ (k : Int) := by omega
    by_cases hlt : k < 32
    · have m1 : (k : Int) < 32 := by omega
      obtain ⟨x, hx⟩ : ∃ x, x = (a.tx.getD k 0).toNat := ⟨_, rfl⟩
      obtain ⟨y, hy⟩ : ∃ y, y = (b.tx.getD k 0).toNat := ⟨_, rfl⟩
      have HC : Hid (∀ V, Below W0.heap.size W0 V → V.cell? ⟨g1, k, none⟩ = some (.int .u8 x) ∧ V.cell? ⟨g2, k, none⟩ = some (.int .u8 y)) := Lib.hid fun V hV => by rw [hx, hy]; exact (HK.out V hV).1 k hlt
      have HR := Lib.hid (And.intro hbr (And.intro hlt (And.intro hall (And.intro hx hy))))
      clear hlt hall hx hy hk
      go_upto_region 4 with fail
      refine wp_region_held (S := Below W0.heap.size W0) (by kernel_rfl) ?_
      change wpAnyH _ _ _ _ _ 9 _ _ (World.drew wr)
      have hcur : Below W0.heap.size W0 wr.drew := hbr.drew
      refine tk 0 (.int .i64 (k : Int)) 10 rfl rfl hcur ?_
      refine tk 1 (.pointer (some ⟨g1, 0, none⟩)) 11 rfl rfl hcur ?_
      refine tk 2 (.pointer (some ⟨g1, k, none⟩)) 12 rfl rfl hcur ?_ (by intro w' hS'; unfold execOp; simp [go_sem, m0, m1])
      refine tk 3 (.int .u8 x) 13 rfl rfl hcur ?_ (by intro w' hS'; have c0 := (HC.out w' hS').1; unfold execOp; simp [go_sem, c0])
      refine tk 4 (.int .i64 (k : Int)) 14 rfl rfl hcur ?_
      refine tk 5 (.pointer (some ⟨g2, 0, none⟩)) 15 rfl rfl hcur ?_
      refine tk 6 (.pointer (some ⟨g2, k, none⟩)) 16 rfl rfl hcur ?_ (by intro w' hS'; unfold execOp; simp [go_sem, m0, m1])
      refine tk 7 (.int .u8 y) 17 rfl rfl hcur ?_ (by intro w' hS'; have c0 := (HC.out w' hS').2; unfold execOp; simp [go_sem, c0])
      refine tk 8 (.bool ((x : Int) != (y : Int))) 18 rfl rfl hcur ?_
      refine held_done (by kernel_rfl) ?_
      generalize wr.drew = W1 at hcur ⊢
      have H1 := Lib.hid hcur
      by_cases hxy : x = y
      · have hb1 : ((x : Int) != (y : Int)) = false := by rw [hxy]; simp
        rw [hb1]
        have HX := Lib.hid hxy
        clear hxy hb1 hcur hbr
        go_wp2_with fail
        refine ⟨⟨k + 1, HR.out.2.1, by go_num, H1.out, fun j hj => ?_⟩, ?_⟩
        · by_cases e : j = k
          · rw [e]
            have h1 := HX.out
            rw [HR.out.2.2.2.1, HR.out.2.2.2.2] at h1
            exact UInt8.toNat_inj.1 h1
          · exact HR.out.2.2.1 j (by omega)
        · have := HR.out.2.1; simp [intOf]; omega
      · have hb1 : ((x : Int) != (y : Int)) = true := by rw [bne_iff_ne]; omega
        rw [hb1]
        have HX := Lib.hid hxy
        clear hxy hb1 hbr
        go_upto_region 5 with fail
        refine wp_region_held (S := Below W0.heap.size W0) (by kernel_rfl) ?_
        change wpAnyH _ _ _ _ _ 10 _ _ (World.drew W1)
        have hcur : Below W0.heap.size W0 W1.drew := hcur.drew
        refine tk 0 (.int .i64 (k : Int)) 19 rfl rfl hcur ?_
        refine tk 1 (.pointer (some ⟨g1, 0, none⟩)) 20 rfl rfl hcur ?_
        refine tk 2 (.pointer (some ⟨g1, k, none⟩)) 21 rfl rfl hcur ?_ (by intro w' hS'; unfold execOp; simp [go_sem, m0, m1])
        refine tk 3 (.int .u8 x) 22 rfl rfl hcur ?_ (by intro w' hS'; have c0 := (HC.out w' hS').1; unfold execOp; simp [go_sem, c0])
        refine tk 4 (.int .i64 (k : Int)) 23 rfl rfl hcur ?_
        refine tk 5 (.pointer (some ⟨g2, 0, none⟩)) 24 rfl rfl hcur ?_
        refine tk 6 (.pointer (some ⟨g2, k, none⟩)) 25 rfl rfl hcur ?_ (by intro w' hS'; unfold execOp; simp [go_sem, m0, m1])
        refine tk 7 (.int .u8 y) 26 rfl rfl hcur ?_ (by intro w' hS'; have c0 := (HC.out w' hS').2; unfold execOp; simp [go_sem, c0])
        refine tk 8 (.bool (decide ((x : Int) < (y : Int)))) 27 rfl rfl hcur ?_
        refine tk 9 (.bool (decide ((x : Int) < (y : Int)))) 4 rfl rfl hcur ?_
        refine held_done (by kernel_rfl) ?_
        have H2 := Lib.hid hcur
        clear hcur
        go_wp2_with fail
        go_ret
        refine ⟨?_, HB.out.trans (H2.out.mono HB.out.size)⟩
        have h1 := cmpB_at a.tx b.tx k HR.out.2.2.1 (by have := HA.out.2.2.1; have := HR.out.2.1; omega) (by have := HA.out.2.2.2; have := HR.out.2.1; omega) (fun e => HX.out (by rw [HR.out.2.2.2.1, HR.out.2.2.2.2, e]))
        rw [← HR.out.2.2.2.1, ← HR.out.2.2.2.2] at h1
        have e1 : lessR a b = decide ((x : Int) < (y : Int)) := by
          unfold lessR cR
          rw [if_neg h1.1, Bool.eq_iff_iff, decide_eq_true_iff, decide_eq_true_iff, h1.2]
          omega
        rw [e1]
        rfl
    · have m1 : ¬ (k : Int) < 32 := by omega
      obtain rfl : k = 32 := by omega
      have heq := same_all HA.out.2.2.1 HA.out.2.2.2 hall
      have c0 := (HK.out wr hbr).2
      obtain ⟨p, hp⟩ : ∃ p, p = a.place := ⟨_, rfl⟩
      obtain ⟨q, hq⟩ : ∃ q, q = b.place := ⟨_, rfl⟩
      rw [← hp, ← hq] at c0
      obtain ⟨c1, c2⟩ := c0
      have e1 : lessR a b = decide (p < q) := by
        unfold lessR cR sgnI
        rw [heq, if_pos (cmpB_self _), ← hp, ← hq]
        by_cases h1 : p < q
        · rw [if_pos h1]; simp [h1]
        · by_cases h2 : q < p
          · rw [if_neg h1, if_pos h2]; simp [h1]
          · rw [if_neg h1, if_neg h2]; simp [h1]
      have HE := Lib.hid (And.intro hbr e1)
      clear hbr hall hlt hk heq hp hq e1
      go_wp2_with fail
      go_ret
      exact ⟨by rw [HE.out.2]; rfl, HB.out.trans (HE.out.1.mono HB.out.size)⟩
theorem rrightRef_any (w : World) (r : Rf) (h : r.tx.length = 32) :
    Calls Tryz.prog 69 #[.agg (refC r)] w fun e w' => e = .returned (.bool (rightRefB r)) ∧ Below w.heap.size w w' := by
  obtain ⟨v, hv⟩ : ∃ v, v = refC r := ⟨_, rfl⟩
  have hc : (Lies (w.alloc (.cells v 37)) w.heap.size v 37) := Lies.new _ _ _
  have hb0 : Below w.heap.size w (w.alloc (.cells v 37)) := (Below.refl _ _).alloc (Nat.le_refl _) _
  have c32 := hc.cell 32 (by rw [hv]; exact refC_place r h)
  rw [← hv]
  have HB := Lib.hid hb0
  obtain ⟨p, hp⟩ : ∃ p, p = r.place := ⟨_, rfl⟩
  rw [← hp] at c32
  have HP := Lib.hid hp
  clear hc hb0 hv h hp
  go_enter Tryz.func69, Tryz.ntmps69
  go_upto_region 1 with fail
  generalize w.alloc (.cells v 37) = W0 at HB c32 ⊢
  by_cases h0 : 0 ≤ p
  · go_wp2_with fail
    go_ret
    exact ⟨by unfold rightRefB; rw [← HP.out]; simp [h0], HB.out⟩
  · go_wp2_with fail
    go_ret
    exact ⟨by unfold rightRefB; rw [← HP.out]; simp [show ¬ 0 ≤ p by omega], HB.out⟩
end Go.Proofs.YtilbbemdinpjcaaGreat.P
namespace Go.Proofs.YtilbbemdinpjcaaGreat.P
set_option maxRecDepth 100000
open Go.RowKit

theorem have_kinds {o : Ot} (h : haveB o = true) (h2 : o.kind = 2) : ∀ x ∈ o.ns, 1 ≤ x.kind ∧ x.kind ≤ 6 := by
  unfold haveB at h
  rw [if_neg (by omega), if_neg (by omega), if_pos h2, Bool.and_eq_true] at h
  exact right_kinds h.2
theorem outs_kinds {o : Ot} (h : rightOB o = true) (h2 : o.kind = 2) : ∀ x ∈ o.ns, 1 ≤ x.kind ∧ x.kind ≤ 6 := by
  unfold rightOB at h
  rw [Bool.and_eq_true] at h
  exact have_kinds h.2 h2
set_option maxHeartbeats 4000000 in
theorem putOutputG_any (w : World) {B g : Nat} {v : Value} {st : Option (List UInt8)} (o : Ot) (hT : Stays g w v fun W => OtOk W o) (hi : ∀ x ∈ o.ns, NdIn x) (h : WrO W.WSt w B g v st) (hx : sz st + 123 * cntO o ≤ 700000) :
    Calls Tryz.prog 138 #[.pointer (some ⟨g, 0, none⟩), .agg (otC o), .func (Fn.func 13) #[] #[], .func (Fn.func 139) #[] #[]] w (PutR W.WSt w B g v (if rightOB o then outS st o else none)) := by
  have hf := hT.now
  obtain ⟨r, hrb⟩ : ∃ r, r = rightOB o := ⟨_, rfl⟩
  obtain ⟨s2, hs2⟩ : ∃ s, s = outS st o := ⟨_, rfl⟩
  obtain ⟨s3, hs3⟩ : ∃ s, s = (if r then s2 else none) := ⟨_, rfl⟩
  obtain ⟨ov, hov⟩ : ∃ y, y = otC o := ⟨_, rfl⟩
  have hf1 := T.callK 13 Tryz.f13 Tryz.func13 (by kernel_rfl) (by kernel_rfl)
  have hf2 := T.callK 139 Tryz.f139 Tryz.func139 (by kernel_rfl) (by kernel_rfl)
  have HR : Hid (∀ V, Below w.heap.size w V → Calls Tryz.prog 13 #[.agg ov] V fun e w' => e = .returned (.bool r) ∧ Below V.heap.size V w') := Lib.hid fun V hb => by
    have hf := (hT.on (Lk.of_below hb)).now
    rw [hrb, hov]; exact rightOutput_any V o hf
  have HC : Hid (r = true → ∀ V, Below w.heap.size w V → Calls Tryz.prog 139 #[.agg #[.pointer (some ⟨g, 0, none⟩)], .agg ov] V (PutR W.WSt V B g v s2)) := Lib.hid fun hr V hb => by
    have hS := hT.on (Lk.of_below hb)
    have hw := h.belowW hb
    rw [hrb] at hr
    rw [hs2, hov]; exact putterOutput_any V o hS (outs_kinds hr) hi hw hx
  have hi1 : (Tryz.prog.info? 35).map (·.size) = some ov.size := by rw [hov, otC_size o hf.ah hf.dh]; exact info_output
  have hL := Lies.new w ov 35
  have hb : Below w.heap.size w (w.alloc (.cells ov 35)) := (Below.refl _ _).alloc (Nat.le_refl _) _
  have HI := Lib.hid hi1
  rw [← hrb, ← hs2, ← hs3, ← hov]
  have H := Lib.hid (And.intro h hs3)
  clear hT h hx hf hrb hs2 hs3 hov hi1 hi
  obtain ⟨W0, HW⟩ : ∃ W0, w.alloc (.cells ov 35) = W0 := ⟨_, rfl⟩
  go_enter Tryz.func138, Tryz.ntmps138
  go_upto_region 1 with fail
  rw [HW] at hL hb
  clear HW
  obtain ⟨q, hq⟩ : ∃ q, q = w.heap.size := ⟨_, rfl⟩
  rw [← hq] at hL ⊢
  clear hq
  have HB := Lib.hid (And.intro hb hL)
  clear hb hL
  go_wp2_with (first
    | (at_builtin; fail)
    | (refine wpList_load_row rfl 35 _ rfl q rfl 35 ov (0, 0) _ (HB.out.2) Tryz.underlying35 rfl HI.out ?_))
  refine (HR.out _ HB.out.1).mono ?_
  rintro e W1 ⟨rfl, hb1⟩
  have hbw := HB.out.1.trans (hb1.mono HB.out.1.size)
  have HL1 := Lib.hid (HB.out.2.below hb1 HB.out.2.lt)
  have HW1 := Lib.hid hbw
  clear hb1 hbw HR
  cases r with
  | true =>
    have HCC := Lib.hid (HC.out rfl W1 HW1.out)
    clear HC
    go_wp2_with (first
      | (at_builtin; fail)
      | (refine wpList_load_row rfl 35 _ rfl q rfl 35 ov (0, 0) _ (HL1.out) Tryz.underlying35 rfl HI.out ?_))
    refine HCC.out.mono ?_
    rintro e W2 hr2
    obtain ⟨rfl, hr2⟩ := hr2
    have HE := Lib.hid hr2
    clear hr2 HCC
    go_wp2_with fail
    first
      | go_end0
      | refine bodyPost_ret (results_none rfl _ _ _) rfl ?_
    rw [H.out.2]
    exact PutR.after HW1.out ⟨rfl, HE.out⟩
  | false =>
    have HCC := Lib.hid (wSpoil W1 (H.out.1.belowW HW1.out))
    clear HC
    go_wp2_with fail
    refine HCC.out.mono ?_
    rintro e W2 hr2
    obtain ⟨rfl, hr2⟩ := hr2
    have HE := Lib.hid hr2
    clear hr2 HCC
    go_wp2_with fail
    first
      | go_end0
      | refine bodyPost_ret (results_none rfl _ _ _) rfl ?_
    rw [H.out.2]
    exact PutR.after HW1.out ⟨rfl, HE.out⟩
set_option maxHeartbeats 4000000 in
theorem putOutput_any (w : World) {B g : Nat} {v : Value} {st : Option (List UInt8)} (o : Ot) (hT : Stays g w v fun W => OtOk W o) (hi : ∀ x ∈ o.ns, NdIn x) (h : WrO W.WSt w B g v st) (hx : sz st + 123 * cntO o ≤ 700000) :
    Calls Tryz.prog 74 #[.pointer (some ⟨g, 0, none⟩), .agg (otC o)] w (PutR W.WSt w B g v (if rightOB o then outS st o else none)) := by
  have hf := hT.now
  obtain ⟨s3, hs3⟩ : ∃ s, s = (if rightOB o then outS st o else none) := ⟨_, rfl⟩
  obtain ⟨ov, hov⟩ : ∃ y, y = otC o := ⟨_, rfl⟩
  have HC : Hid (∀ V, Below w.heap.size w V → Calls Tryz.prog 138 #[.pointer (some ⟨g, 0, none⟩), .agg ov, .func (Fn.func 13) #[] #[], .func (Fn.func 139) #[] #[]] V (PutR W.WSt V B g v s3)) := Lib.hid fun V hb => by
    rw [hs3, hov]; exact putOutputG_any V o (hT.on (Lk.of_below hb)) hi (h.belowW hb) hx
  have hi1 : (Tryz.prog.info? 35).map (·.size) = some ov.size := by rw [hov, otC_size o hf.ah hf.dh]; exact info_output
  have hL := Lies.new w ov 35
  have hb : Below w.heap.size w (w.alloc (.cells ov 35)) := (Below.refl _ _).alloc (Nat.le_refl _) _
  have HI := Lib.hid hi1
  rw [← hs3, ← hov]
  clear hT h hx hf hs3 hov hi1 hi
  obtain ⟨W0, HW⟩ : ∃ W0, w.alloc (.cells ov 35) = W0 := ⟨_, rfl⟩
  go_enter Tryz.func74, Tryz.ntmps74
  go_upto_region 1 with fail
  rw [HW] at hL hb
  clear HW
  obtain ⟨q, hq⟩ : ∃ q, q = w.heap.size := ⟨_, rfl⟩
  rw [← hq] at hL ⊢
  clear hq
  have HB := Lib.hid (And.intro hb hL)
  clear hb hL
  go_wp2_with (first
    | (at_builtin; fail)
    | (refine wpList_load_row rfl 35 _ rfl q rfl 35 ov (0, 0) _ (HB.out.2) Tryz.underlying35 rfl HI.out ?_))
  refine (HC.out _ HB.out.1).mono ?_
  rintro e W2 hr2
  obtain ⟨rfl, hr2⟩ := hr2
  have HE := Lib.hid hr2
  clear hr2 HC
  go_wp2_with fail
  go_end0
  exact PutR.after HB.out.1 ⟨rfl, HE.out⟩
set_option maxHeartbeats 4000000 in
theorem putValueG_any (w : World) {B g : Nat} {v : Value} {st : Option (List UInt8)} (x : Va) (hT : Stays g w v fun W => Row W x.pa x.l) (h : WrO W.WSt w B g v st) (hx : sz st + 57 * cntV x ≤ 700000) :
    Calls Tryz.prog 183 #[.pointer (some ⟨g, 0, none⟩), .agg (vaC x), .func (Fn.func 63) #[] #[], .func (Fn.func 184) #[] #[]] w (PutR W.WSt w B g v (if rightV x then valS st x else none)) := by
  have hf := hT.now
  obtain ⟨r, hrb⟩ : ∃ r, r = rightV x := ⟨_, rfl⟩
  obtain ⟨s2, hs2⟩ : ∃ s, s = valS st x := ⟨_, rfl⟩
  obtain ⟨s3, hs3⟩ : ∃ s, s = (if r then s2 else none) := ⟨_, rfl⟩
  obtain ⟨ov, hov⟩ : ∃ y, y = vaC x := ⟨_, rfl⟩
  have hf1 := T.callK 63 Tryz.f63 Tryz.func63 (by kernel_rfl) (by kernel_rfl)
  have hf2 := T.callK 184 Tryz.f184 Tryz.func184 (by kernel_rfl) (by kernel_rfl)
  have HR : Hid (∀ V, Below w.heap.size w V → Calls Tryz.prog 63 #[.agg ov] V fun e w' => e = .returned (.bool r) ∧ Below V.heap.size V w') := Lib.hid fun V hb => by
    have hf := (hT.on (Lk.of_below hb)).now
    rw [hrb, hov]; exact right_any V x.coin x.pa x.l x.c hf
  have HC : Hid (r = true → ∀ V, Below w.heap.size w V → Calls Tryz.prog 184 #[.agg #[.pointer (some ⟨g, 0, none⟩)], .agg ov] V (PutR W.WSt V B g v s2)) := Lib.hid fun hr V hb => by
    have hS := hT.on (Lk.of_below hb)
    have hw := h.belowW hb
    rw [hrb] at hr
    rw [hs2, hov]; exact putterValue_any V x hS hw hx
  have hi1 : (Tryz.prog.info? 27).map (·.size) = some ov.size := by rw [hov, vaC_size x]; exact info_value
  have hL := Lies.new w ov 27
  have hb : Below w.heap.size w (w.alloc (.cells ov 27)) := (Below.refl _ _).alloc (Nat.le_refl _) _
  have HI := Lib.hid hi1
  rw [← hrb, ← hs2, ← hs3, ← hov]
  have H := Lib.hid (And.intro h hs3)
  clear hT h hx hf hrb hs2 hs3 hov hi1
  obtain ⟨W0, HW⟩ : ∃ W0, w.alloc (.cells ov 27) = W0 := ⟨_, rfl⟩
  go_enter Tryz.func183, Tryz.ntmps183
  go_upto_region 1 with fail
  rw [HW] at hL hb
  clear HW
  obtain ⟨q, hq⟩ : ∃ q, q = w.heap.size := ⟨_, rfl⟩
  rw [← hq] at hL ⊢
  clear hq
  have HB := Lib.hid (And.intro hb hL)
  clear hb hL
  go_wp2_with (first
    | (at_builtin; fail)
    | (refine wpList_load_row rfl 27 _ rfl q rfl 27 ov (0, 0) _ (HB.out.2) Tryz.underlying27 rfl HI.out ?_))
  refine (HR.out _ HB.out.1).mono ?_
  rintro e W1 ⟨rfl, hb1⟩
  have hbw := HB.out.1.trans (hb1.mono HB.out.1.size)
  have HL1 := Lib.hid (HB.out.2.below hb1 HB.out.2.lt)
  have HW1 := Lib.hid hbw
  clear hb1 hbw HR
  cases r with
  | true =>
    have HCC := Lib.hid (HC.out rfl W1 HW1.out)
    clear HC
    go_wp2_with (first
      | (at_builtin; fail)
      | (refine wpList_load_row rfl 27 _ rfl q rfl 27 ov (0, 0) _ (HL1.out) Tryz.underlying27 rfl HI.out ?_))
    refine HCC.out.mono ?_
    rintro e W2 hr2
    obtain ⟨rfl, hr2⟩ := hr2
    have HE := Lib.hid hr2
    clear hr2 HCC
    go_wp2_with fail
    first
      | go_end0
      | refine bodyPost_ret (results_none rfl _ _ _) rfl ?_
    rw [H.out.2]
    exact PutR.after HW1.out ⟨rfl, HE.out⟩
  | false =>
    have HCC := Lib.hid (wSpoil W1 (H.out.1.belowW HW1.out))
    clear HC
    go_wp2_with fail
    refine HCC.out.mono ?_
    rintro e W2 hr2
    obtain ⟨rfl, hr2⟩ := hr2
    have HE := Lib.hid hr2
    clear hr2 HCC
    go_wp2_with fail
    first
      | go_end0
      | refine bodyPost_ret (results_none rfl _ _ _) rfl ?_
    rw [H.out.2]
    exact PutR.after HW1.out ⟨rfl, HE.out⟩
set_option maxHeartbeats 4000000 in
theorem putValue_any (w : World) {B g : Nat} {v : Value} {st : Option (List UInt8)} (x : Va) (hT : Stays g w v fun W => Row W x.pa x.l) (h : WrO W.WSt w B g v st) (hx : sz st + 57 * cntV x ≤ 700000) :
    Calls Tryz.prog 112 #[.pointer (some ⟨g, 0, none⟩), .agg (vaC x)] w (PutR W.WSt w B g v (if rightV x then valS st x else none)) := by
  have hf := hT.now
  obtain ⟨s3, hs3⟩ : ∃ s, s = (if rightV x then valS st x else none) := ⟨_, rfl⟩
  obtain ⟨ov, hov⟩ : ∃ y, y = vaC x := ⟨_, rfl⟩
  have HC : Hid (∀ V, Below w.heap.size w V → Calls Tryz.prog 183 #[.pointer (some ⟨g, 0, none⟩), .agg ov, .func (Fn.func 63) #[] #[], .func (Fn.func 184) #[] #[]] V (PutR W.WSt V B g v s3)) := Lib.hid fun V hb => by
    rw [hs3, hov]; exact putValueG_any V x (hT.on (Lk.of_below hb))  (h.belowW hb) hx
  have hi1 : (Tryz.prog.info? 27).map (·.size) = some ov.size := by rw [hov, vaC_size x]; exact info_value
  have hL := Lies.new w ov 27
  have hb : Below w.heap.size w (w.alloc (.cells ov 27)) := (Below.refl _ _).alloc (Nat.le_refl _) _
  have HI := Lib.hid hi1
  rw [← hs3, ← hov]
  clear hT h hx hf hs3 hov hi1
  obtain ⟨W0, HW⟩ : ∃ W0, w.alloc (.cells ov 27) = W0 := ⟨_, rfl⟩
  go_enter Tryz.func112, Tryz.ntmps112
  go_upto_region 1 with fail
  rw [HW] at hL hb
  clear HW
  obtain ⟨q, hq⟩ : ∃ q, q = w.heap.size := ⟨_, rfl⟩
  rw [← hq] at hL ⊢
  clear hq
  have HB := Lib.hid (And.intro hb hL)
  clear hb hL
  go_wp2_with (first
    | (at_builtin; fail)
    | (refine wpList_load_row rfl 27 _ rfl q rfl 27 ov (0, 0) _ (HB.out.2) Tryz.underlying27 rfl HI.out ?_))
  refine (HC.out _ HB.out.1).mono ?_
  rintro e W2 hr2
  obtain ⟨rfl, hr2⟩ := hr2
  have HE := Lib.hid hr2
  clear hr2 HC
  go_wp2_with fail
  go_end0
  exact PutR.after HB.out.1 ⟨rfl, HE.out⟩
set_option maxHeartbeats 4000000 in
theorem putRefG_any (w : World) {B g : Nat} {v : Value} {st : Option (List UInt8)} (y0 : Rf) (hl : y0.tx.length = 32) (hT : Stays g w v fun _ => True) (h : WrO W.WSt w B g v st) (hx : sz st ≤ 700000) :
    Calls Tryz.prog 187 #[.pointer (some ⟨g, 0, none⟩), .agg (refC y0), .func (Fn.func 68) #[] #[], .func (Fn.func 188) #[] #[]] w (PutR W.WSt w B g v (if rightRefB y0 then refS st y0 else none)) := by
  have hf := hT.now
  obtain ⟨r, hrb⟩ : ∃ r, r = rightRefB y0 := ⟨_, rfl⟩
  obtain ⟨s2, hs2⟩ : ∃ s, s = refS st y0 := ⟨_, rfl⟩
  obtain ⟨s3, hs3⟩ : ∃ s, s = (if r then s2 else none) := ⟨_, rfl⟩
  obtain ⟨ov, hov⟩ : ∃ y, y = refC y0 := ⟨_, rfl⟩
  have hf1 := T.callK 68 Tryz.f68 Tryz.func68 (by kernel_rfl) (by kernel_rfl)
  have hf2 := T.callK 188 Tryz.f188 Tryz.func188 (by kernel_rfl) (by kernel_rfl)
  have HR : Hid (∀ V, Below w.heap.size w V → Calls Tryz.prog 68 #[.agg ov] V fun e w' => e = .returned (.bool r) ∧ Below V.heap.size V w') := Lib.hid fun V hb => by
    have hf := (hT.on (Lk.of_below hb)).now
    rw [hrb, hov]; exact rightRef_any V y0 hl
  have HC : Hid (r = true → ∀ V, Below w.heap.size w V → Calls Tryz.prog 188 #[.agg #[.pointer (some ⟨g, 0, none⟩)], .agg ov] V (PutR W.WSt V B g v s2)) := Lib.hid fun hr V hb => by
    have hS := hT.on (Lk.of_below hb)
    have hw := h.belowW hb
    rw [hrb] at hr
    rw [hs2, hov]; exact putterRef_any V y0 hl hw hx
  have hi1 : (Tryz.prog.info? 37).map (·.size) = some ov.size := by rw [hov, refC_size y0 hl]; exact info_ref
  have hL := Lies.new w ov 37
  have hb : Below w.heap.size w (w.alloc (.cells ov 37)) := (Below.refl _ _).alloc (Nat.le_refl _) _
  have HI := Lib.hid hi1
  rw [← hrb, ← hs2, ← hs3, ← hov]
  have H := Lib.hid (And.intro h hs3)
  clear hT h hx hf hrb hs2 hs3 hov hi1
  obtain ⟨W0, HW⟩ : ∃ W0, w.alloc (.cells ov 37) = W0 := ⟨_, rfl⟩
  go_enter Tryz.func187, Tryz.ntmps187
  go_upto_region 1 with fail
  rw [HW] at hL hb
  clear HW
  obtain ⟨q, hq⟩ : ∃ q, q = w.heap.size := ⟨_, rfl⟩
  rw [← hq] at hL ⊢
  clear hq
  have HB := Lib.hid (And.intro hb hL)
  clear hb hL
  go_wp2_with (first
    | (at_builtin; fail)
    | (refine wpList_load_row rfl 37 _ rfl q rfl 37 ov (0, 0) _ (HB.out.2) Tryz.underlying37 rfl HI.out ?_))
  refine (HR.out _ HB.out.1).mono ?_
  rintro e W1 ⟨rfl, hb1⟩
  have hbw := HB.out.1.trans (hb1.mono HB.out.1.size)
  have HL1 := Lib.hid (HB.out.2.below hb1 HB.out.2.lt)
  have HW1 := Lib.hid hbw
  clear hb1 hbw HR
  cases r with
  | true =>
    have HCC := Lib.hid (HC.out rfl W1 HW1.out)
    clear HC
    go_wp2_with (first
      | (at_builtin; fail)
      | (refine wpList_load_row rfl 37 _ rfl q rfl 37 ov (0, 0) _ (HL1.out) Tryz.underlying37 rfl HI.out ?_))
    refine HCC.out.mono ?_
    rintro e W2 hr2
    obtain ⟨rfl, hr2⟩ := hr2
    have HE := Lib.hid hr2
    clear hr2 HCC
    go_wp2_with fail
    first
      | go_end0
      | refine bodyPost_ret (results_none rfl _ _ _) rfl ?_
    rw [H.out.2]
    exact PutR.after HW1.out ⟨rfl, HE.out⟩
  | false =>
    have HCC := Lib.hid (wSpoil W1 (H.out.1.belowW HW1.out))
    clear HC
    go_wp2_with fail
    refine HCC.out.mono ?_
    rintro e W2 hr2
    obtain ⟨rfl, hr2⟩ := hr2
    have HE := Lib.hid hr2
    clear hr2 HCC
    go_wp2_with fail
    first
      | go_end0
      | refine bodyPost_ret (results_none rfl _ _ _) rfl ?_
    rw [H.out.2]
    exact PutR.after HW1.out ⟨rfl, HE.out⟩
set_option maxHeartbeats 4000000 in
theorem putRef_any (w : World) {B g : Nat} {v : Value} {st : Option (List UInt8)} (y0 : Rf) (hl : y0.tx.length = 32) (hT : Stays g w v fun _ => True) (h : WrO W.WSt w B g v st) (hx : sz st ≤ 700000) :
    Calls Tryz.prog 114 #[.pointer (some ⟨g, 0, none⟩), .agg (refC y0)] w (PutR W.WSt w B g v (if rightRefB y0 then refS st y0 else none)) := by
  have hf := hT.now
  obtain ⟨s3, hs3⟩ : ∃ s, s = (if rightRefB y0 then refS st y0 else none) := ⟨_, rfl⟩
  obtain ⟨ov, hov⟩ : ∃ y, y = refC y0 := ⟨_, rfl⟩
  have HC : Hid (∀ V, Below w.heap.size w V → Calls Tryz.prog 187 #[.pointer (some ⟨g, 0, none⟩), .agg ov, .func (Fn.func 68) #[] #[], .func (Fn.func 188) #[] #[]] V (PutR W.WSt V B g v s3)) := Lib.hid fun V hb => by
    rw [hs3, hov]; exact putRefG_any V y0 hl (hT.on (Lk.of_below hb))  (h.belowW hb) hx
  have hi1 : (Tryz.prog.info? 37).map (·.size) = some ov.size := by rw [hov, refC_size y0 hl]; exact info_ref
  have hL := Lies.new w ov 37
  have hb : Below w.heap.size w (w.alloc (.cells ov 37)) := (Below.refl _ _).alloc (Nat.le_refl _) _
  have HI := Lib.hid hi1
  rw [← hs3, ← hov]
  clear hT h hx hf hs3 hov hi1
  obtain ⟨W0, HW⟩ : ∃ W0, w.alloc (.cells ov 37) = W0 := ⟨_, rfl⟩
  go_enter Tryz.func114, Tryz.ntmps114
  go_upto_region 1 with fail
  rw [HW] at hL hb
  clear HW
  obtain ⟨q, hq⟩ : ∃ q, q = w.heap.size := ⟨_, rfl⟩
  rw [← hq] at hL ⊢
  clear hq
  have HB := Lib.hid (And.intro hb hL)
  clear hb hL
  go_wp2_with (first
    | (at_builtin; fail)
    | (refine wpList_load_row rfl 37 _ rfl q rfl 37 ov (0, 0) _ (HB.out.2) Tryz.underlying37 rfl HI.out ?_))
  refine (HC.out _ HB.out.1).mono ?_
  rintro e W2 hr2
  obtain ⟨rfl, hr2⟩ := hr2
  have HE := Lib.hid hr2
  clear hr2 HC
  go_wp2_with fail
  go_end0
  exact PutR.after HB.out.1 ⟨rfl, HE.out⟩
end Go.Proofs.YtilbbemdinpjcaaGreat.P
namespace Go.Proofs.YtilbbemdinpjcaaGreat.P
set_option maxRecDepth 100000
open Go.RowKit

/-- The bytes that a writer tells. -/
def bs : Option (List UInt8) → List UInt8
  | none => []
  | some l => l
theorem newW_any (w : World) : Calls Tryz.prog 36 #[] w fun e w' => e = .returned (.pointer (some ⟨w.heap.size, 0, none⟩)) ∧ (∃ v, WrO W.WSt w' w.heap.size w.heap.size v (some [])) ∧ Below w.heap.size w w' :=
  (W.newwriter_any w).mono fun e w' ⟨h1, h2, h3⟩ => by
    obtain ⟨v, hv⟩ := h2.wrv
    exact ⟨h1, ⟨v, ⟨hv, W.own_block hv.2.1, hv.2.2.1, hv.1.lt, Nat.le_refl _⟩⟩, h3⟩
theorem bytesW_any (w : World) {B g : Nat} {v : Value} {st : Option (List UInt8)} (h : WrO W.WSt w B g v st) (hx : sz st ≤ 2000000) :
    Calls Tryz.prog 38 #[.pointer (some ⟨g, 0, none⟩)] w fun e w' => ∃ u er, e = .returned (.tuple #[u, .int .i64 er]) ∧ er = (if st.isNone then 2 else 0) ∧ w'.ownsRow w.heap.size 5 1 u (bs st).length (B8 (bs st)).toList ∧ Below w.heap.size w w' := by
  cases st with
  | none =>
    refine (W.wbytes_spoilt w B g v h.s).mono ?_
    rintro e w' ⟨rfl, rfl⟩
    exact ⟨_, _, rfl, rfl, World.ownsRow_nil _ _ _ _, Below.refl _ _⟩
  | some l => exact (W.wbytes_good w B g v l h.s hx).mono fun e w' ⟨u, h1, h2⟩ => ⟨u, _, h1, rfl, h2⟩
theorem stays_low {S : World → Nat → Nat → Value → Option (List UInt8) → Prop} {w0 w : World} {B g : Nat} {v : Value} {st : Option (List UInt8)} {P : World → Prop} (h : WrO S w B g v st) (hb : Below B w0 w) (hP : ∀ V, Below B w0 V → P V) : Stays g w v P :=
  fun V _ hl => hP V (hb.trans (hl.low h.le (fun x e => (h.own x e).1) (by have := h.le; have := h.lt; omega)))
theorem own_len {w : World} {base n : Nat} {u : Value} {xs : List Value} (h : w.ownsRow base 5 1 u n xs) : ∃ a c, u = .slice a n c := by
  rcases h.2 with ⟨rfl, rfl⟩ | ⟨k, cap, cur, rfl, _⟩
  · exact ⟨_, _, rfl⟩
  · exact ⟨_, _, rfl⟩
set_option maxHeartbeats 4000000 in
theorem long_any (w : World) (o : Ot) (hT : OtOk w o) (hi : ∀ x ∈ o.ns, NdIn x) (hx : 123 * cntO o ≤ 600000) :
    Calls Tryz.prog 19 #[.agg (otC o)] w fun e w' => e = .returned (.int .i64 (sz (if rightOB o then outS (some []) o else none))) ∧ Below w.heap.size w w' := by
  obtain ⟨ov, hov⟩ : ∃ y, y = otC o := ⟨_, rfl⟩
  obtain ⟨s1, hs1⟩ : ∃ s, s = (if rightOB o then outS (some []) o else none) := ⟨_, rfl⟩
  have hz1 : sz s1 ≤ 600000 := by
    have h1 := sz_out (some []) o hT.ah hT.dh (fun a ha => (hT.v.2.2.2.1 a ha).1)
    rw [hs1]
    split
    · simp only [sz, List.length_nil] at h1 ⊢; omega
    · exact Nat.zero_le _
  have hi1 : (Tryz.prog.info? 35).map (·.size) = some ov.size := by rw [hov, otC_size o hT.ah hT.dh]; exact info_output
  have hL := Lies.new w ov 35
  have hb : Below w.heap.size w (w.alloc (.cells ov 35)) := (Below.refl _ _).alloc (Nat.le_refl _) _
  have HI := Lib.hid hi1
  rw [← hov, ← hs1]
  have H := Lib.hid (And.intro hT (And.intro hi (And.intro hx (And.intro hz1 (And.intro hs1 hov)))))
  clear hT hi hx hz1 hs1 hov hi1
  obtain ⟨W0, HW⟩ : ∃ W0, w.alloc (.cells ov 35) = W0 := ⟨_, rfl⟩
  go_enter Tryz.func19, Tryz.ntmps19
  go_upto_region 1 with fail
  rw [HW] at hL hb
  clear HW
  obtain ⟨q, hq⟩ : ∃ q, q = w.heap.size := ⟨_, rfl⟩
  rw [← hq] at hL ⊢
  have HB := Lib.hid (And.intro hb (And.intro hL hq))
  clear hb hL hq
  go_wp2_with fail
  refine (newW_any W0).mono ?_
  rintro e W1 ⟨rfl, ⟨v1, hw1⟩, hb1⟩
  have hL1 := HB.out.2.1.below hb1 HB.out.2.1.lt
  have hst : Stays W0.heap.size W1 v1 fun V => OtOk V o := stays_low hw1 hb1 (w0 := W0) fun V hV => (H.out.1.below HB.out.1 (Nat.le_refl _)).below hV (Nat.le_refl _)
  have HC := Lib.hid (putOutput_any W1 o hst H.out.2.1 hw1 (by simp only [sz, List.length_nil]; have := H.out.2.2.1; omega))
  rw [← H.out.2.2.2.2.1, ← H.out.2.2.2.2.2] at HC
  have H1 := Lib.hid (And.intro hL1 (And.intro hb1 hw1))
  clear hw1 hb1 hL1 hst
  go_wp2_with (first
    | (at_builtin; fail)
    | (refine wpList_load_row rfl 35 _ rfl q rfl 35 ov (0, 0) _ (H1.out.1) Tryz.underlying35 rfl HI.out ?_))
  refine HC.out.mono ?_
  rintro e W2 ⟨rfl, v2, hw2, hk2⟩
  have hb2 : Below W0.heap.size W1 W2 := hk2.low (Nat.le_refl _) (fun x e => (H1.out.2.2.own x e).1) H1.out.2.1.size
  have HC2 := Lib.hid (bytesW_any W2 hw2 (by have := H.out.2.2.2.1; omega))
  have H2 := Lib.hid (HB.out.1.trans ((H1.out.2.1.trans hb2).mono HB.out.1.size))
  clear hw2 hk2 hb2 HC
  go_wp2_with fail
  refine HC2.out.mono ?_
  rintro e W3 ⟨u, er, rfl, her, hown, hb3⟩
  clear her
  obtain ⟨a, c, rfl⟩ := own_len hown
  have H3 := Lib.hid (H2.out.trans (hb3.mono H2.out.size))
  clear hown hb3 HC2
  go_wp2_with fail
  go_ret
  refine ⟨?_, H3.out⟩
  cases s1 <;> rfl
end Go.Proofs.YtilbbemdinpjcaaGreat.P
