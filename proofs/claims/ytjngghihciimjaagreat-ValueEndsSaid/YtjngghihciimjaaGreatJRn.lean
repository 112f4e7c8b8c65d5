/-
  The document's own Of.
-/
import Derived.Test.YtjngghihciimjaaGreatJRg
import Derived.Test.YtjngghihciimjaaGreatJVmc
namespace Go.Proofs.YtjngghihciimjaaGreat
set_option maxRecDepth 100000
open Go.RowKit Go.Sort Go.Maps
theorem keyed_hash : Tryz.prog.keyTypeAt 5 26 = true := by kernel_rfl
theorem formed_hash (p : List UInt8) (h : p.length = 32) : (Value.agg (B8 p)).formed Tryz.prog 26 = true := by
 obtain ⟨a0, a1, a2, a3, a4, a5, a6, a7, a8, a9, a10, a11, a12, a13, a14, a15, a16, a17, a18, a19, a20, a21, a22, a23, a24, a25, a26, a27, a28, a29, a30, a31, rfl⟩ := list32 p h
 kernel_rfl
theorem eq_hash (w : World) (p q : List UInt8) (hp : p.length = 32) (hq : q.length = 32) : (Op.equalIn 10000 26 (.agg (B8 p)) (.agg (B8 q))).run Tryz.prog w = .ok (decide (p = q)) w := by
 obtain ⟨r, hr, hi⟩ := run_equalIn_deep 9995 5 26 keyed_hash w 5 5 (.agg (B8 p)) (.agg (B8 q)) _ _ (formed_hash p hp) (formed_hash q hq) (litsH 3 p hp) (litsH 3 q hq)
 have e : r = decide (p = q) := by
  rw [Bool.eq_iff_iff, decide_eq_true_iff, hi]
  exact ⟨map_u8_inj, fun e => by rw [e]⟩
 rw [← e]
 exact hr
theorem nm_ne {a : As} {p t : List UInt8} (h : a.nm.1 ≠ p ∨ a.nm.2 ≠ t) : a.nm ≠ (p, t) := fun e => by
 rw [e] at h
 rcases h with h | h <;> exact h rfl
set_option maxHeartbeats 8000000 in
theorem rof_any (w : World) (x : Int) (pa : Option Addr) (l : List As) (c : Nat) (p t : List UInt8) (h : Row w pa l) (hp : p.length = 32) :
  Calls Tryz.prog 19 #[.agg (vC x pa l.length c), .agg (B8 p), .string (txt t)] w fun e w' => e = .returned (.int .i64 (amtOf l (p, t))) ∧ Below w.heap.size w w' := by
 have hli : (l.length : Int) ≤ 9223372036854775807 := by have := h.1; unfold maxLen at this; omega
 obtain ⟨vv, hvv⟩ : ∃ v, v = vC x pa l.length c := ⟨_, rfl⟩
 obtain ⟨pv, hpv⟩ : ∃ v, v = B8 p := ⟨_, rfl⟩
 obtain ⟨tv, htv⟩ : ∃ v, v = txt t := ⟨_, rfl⟩
 have hps : pv.size = 32 := by rw [hpv, B8_size, hp]
 rw [← hvv, ← hpv, ← htv]
 have H := Lib.hid (And.intro h (And.intro hp (And.intro hvv (And.intro hpv (And.intro htv hps)))))
 clear h hp hvv hpv htv hps
 go_enter Tryz.func19, Tryz.ntmps19
 go_upto_region 1 with fail
 have hL1 : Lies ((w.alloc (.cells vv 24)).alloc (.cells pv 26)) w.heap.size vv 24 := (Lies.new _ _ _).alloc _
 have hL2 : Lies ((w.alloc (.cells vv 24)).alloc (.cells pv 26)) (w.heap.size + 1) pv 26 := by
  have := Lies.new (w.alloc (.cells vv 24)) pv 26
  simpa using this
 have hb0 : Below w.heap.size w ((w.alloc (.cells vv 24)).alloc (.cells pv 26)) := ((Below.refl _ _).alloc (Nat.le_refl _) _).alloc (by simp) _
 generalize (w.alloc (.cells vv 24)).alloc (.cells pv 26) = W1 at hL1 hL2 hb0 ⊢
 obtain ⟨b3, hb3⟩ : ∃ b, b = w.heap.size := ⟨_, rfl⟩
 obtain ⟨b4, hb4⟩ : ∃ b, b = w.heap.size + 1 := ⟨_, rfl⟩
 rw [← hb4] at hL2 ⊢
 rw [← hb3] at hL1 ⊢
 have hcx : W1.cell? ⟨b3, 1, none⟩ = some (.slice pa l.length c) := hL1.cell 1 (by rw [H.out.2.2.1]; rfl)
 have hrp : W1.rangeAt b4 0 pv.toList := range_lies hL2
 have H1 := Lib.hid (And.intro hL1 (And.intro hL2 (And.intro (show Below b3 w W1 by rw [hb3]; exact hb0) (And.intro hcx hrp))))
 have HB := Lib.hid (And.intro hb3 hb4)
 clear hL1 hL2 hb0 hb3 hb4 hcx hrp
 go_wp2_with fail
 go_loopw [7] (fun i W => ∃ k : Nat, k ≤ l.length ∧ i = .int .i64 k ∧ Below W1.heap.size W1 W ∧ ∀ (i : Nat) (b : As), i < k → l[i]? = some b → b.nm ≠ (p, t)) (fun i _ => l.length - (intOf i).toNat)
 case atStart => exact ⟨0, Nat.zero_le _, rfl, Below.refl _ _, fun i b hi => absurd hi (by omega)⟩
 case round =>
  obtain ⟨k, hk, rfl, hb, hall⟩ := hrel
  have hq1 := (hb.cell (p := ⟨b3, 1, none⟩) H1.out.1.lt).trans H1.out.2.2.2.1
  by_cases hlt : k < l.length
  ·
   have m1 : (k : Int) < (l.length : Int) := by omega
   have m0 : (0 : Int) ≤ (k : Int) := by omega
   obtain ⟨g, off, rfl, hg, hh⟩ := H.out.1.2.2 (by omega)
   obtain ⟨y, hy⟩ : ∃ y, y = l[k] := ⟨_, rfl⟩
   have hky : l[k]? = some y := by rw [hy, List.getElem?_eq_getElem hlt]
   have oky := H.out.1.2.1 y (List.mem_of_getElem? hky)
   have hw1 : ∀ U, Below W1.heap.size W1 U → Below w.heap.size w U := fun U hU => by
    have h := H1.out.2.2.1
    rw [HB.out.1] at h
    exact h.trans (hU.mono h.size)
   have hrY : ∀ U, Below W1.heap.size W1 U → U.rangeAt g (off + k * 34) (asC y).toList := fun U hU => (hh.below (hw1 U hU) hg) k y hky
   obtain ⟨pw, hpw⟩ : ∃ v, v = B8 y.nm.1 := ⟨_, rfl⟩
   obtain ⟨tw, htw⟩ : ∃ v, v = txt y.nm.2 := ⟨_, rfl⟩
   have hsz1 : (Tryz.prog.info? 26).map (·.size) = some pw.size := by rw [hpw, B8_size, oky.1]; exact info_hash
   have hsz2 : (Tryz.prog.info? 26).map (·.size) = some pv.size := by rw [H.out.2.2.2.2.2]; exact info_hash
   have hS0 : ∀ U, Below W1.heap.size W1 U → U.cell? ⟨b3, 1, none⟩ = some (.slice (some ⟨g, off, none⟩) l.length c) ∧ U.rangeAt b4 0 pv.toList ∧ U.rangeAt g (off + k * 34) pw.toList ∧ U.cell? ⟨g, off + k * 34 + 32, none⟩ = some (.string tw) := fun U hU => by
    refine ⟨(hU.cell (p := ⟨b3, 1, none⟩) H1.out.1.lt).trans H1.out.2.2.2.1, range_lies (H1.out.2.1.below hU H1.out.2.1.lt), ?_, ?_⟩
    ·
     rw [hpw]; exact asC_polR oky.1 (hrY U hU)
    ·
     rw [htw]; exact asC_strR oky.1 (hrY U hU)
   have ham : ∀ U, Below W1.heap.size W1 U → U.cell? ⟨g, off + k * 34 + 33, none⟩ = some (.int .i64 y.amt) := fun U hU => asC_amtR oky.1 (hrY U hU)
   have heqh : ∀ W, (Op.equalIn 10000 26 (.agg pw) (.agg pv)).run Tryz.prog W = .ok (decide (y.nm.1 = p)) W := fun W => by
    rw [hpw, H.out.2.2.2.1]; exact eq_hash W _ _ oky.1 H.out.2.1
   have htq : tw.toList = tv.toList ↔ y.nm.2 = t := by
    rw [htw, H.out.2.2.2.2.1, txt_list, txt_list]
   have HR := Lib.hid (And.intro hb (And.intro hall (And.intro hlt (And.intro hky (And.intro hS0 (And.intro ham (And.intro hsz1 (And.intro hsz2 htq))))))))
   have HQ := Lib.hid heqh
   clear hb hall hlt hky hS0 ham hsz1 hsz2 htq heqh hrY hw1 oky hk hy hpw htw hg hh
   go_upto_region 4 with fail
   clear hq1
   refine wp_region_noPanic (wp_region_held (S := fun U => U.cell? ⟨b3, 1, none⟩ = some (.slice (some ⟨g, off, none⟩) l.length c) ∧ U.rangeAt b4 0 pv.toList ∧ U.rangeAt g (off + k * 34) pw.toList ∧ U.cell? ⟨g, off + k * 34 + 32, none⟩ = some (.string tw)) (by kernel_rfl) ?_)
   change wpAnyH _ _ _ _ _ 18 _ _ (World.drew wr)
   have hbd : Below W1.heap.size W1 wr.drew := HR.out.1.drew
   generalize World.drew wr = wd at hbd ⊢
   have hcur := HR.out.2.2.2.2.1 wd hbd
   have q1 := hcur.1
   have q33 := HR.out.2.2.2.2.2.1 wd hbd
   have HBD := Lib.hid (And.intro hbd hcur)
   have HC := Lib.hid q1
   have HD := Lib.hid q33
   clear hbd q1 q33
   have heqh := HQ.out
   by_cases hpe : y.nm.1 = p
   ·
    have hd : decide (y.nm.1 = p) = true := decide_eq_true hpe
    by_cases hte : y.nm.2 = t
    ·
     have HN := Lib.hid (show y.nm = (p, t) from Prod.ext hpe hte)
     have ht : tw.toList = tv.toList := HR.out.2.2.2.2.2.2.2.2.mpr hte
     clear hpe hte
     refine tk 0 (.pointer (some ⟨b3, 1, none⟩)) 15 rfl rfl hcur ?_
     refine tk 1 (.slice (some ⟨g, off, none⟩) l.length c) 16 rfl rfl hcur ?_ (by intro w' hS'; have q := hS'.1; unfold execOp; simp [go_sem, q])
     refine tk 2 (.int .i64 k) 17 rfl rfl hcur ?_
     refine tk 3 (.pointer (some ⟨g, off + k * 34, none⟩)) 18 rfl rfl hcur ?_ (by intro w' hS'; unfold execOp; simp [go_sem, m0, m1])
     refine tk 4 (.pointer (some ⟨g, off + k * 34, none⟩)) 19 rfl rfl hcur ?_
     refine tk 5 (.agg pw) 20 rfl rfl hcur ?_ (by intro w' hS'; exact exec_loadM 26 _ rfl _ _ rfl pw hS'.2.2.1 Tryz.underlying26 rfl HR.out.2.2.2.2.2.2.1)
     refine tk 6 (.agg pv) 21 rfl rfl hcur ?_ (by intro w' hS'; exact exec_loadM 26 _ rfl _ _ rfl pv hS'.2.1 Tryz.underlying26 rfl HR.out.2.2.2.2.2.2.2.1)
     refine tk 7 (.bool true) 22 rfl rfl hcur ?_ (by intro w' hS'; unfold execOp; simp [go_sem, heqh, hd])
     refine tk 8 (.bool true) 23 rfl rfl hcur ?_
     refine tk 9 (.pointer (some ⟨b3, 1, none⟩)) 24 rfl rfl hcur ?_
     refine tk 10 (.slice (some ⟨g, off, none⟩) l.length c) 25 rfl rfl hcur ?_ (by intro w' hS'; have q := hS'.1; unfold execOp; simp [go_sem, q])
     refine tk 11 (.int .i64 k) 26 rfl rfl hcur ?_
     refine tk 12 (.pointer (some ⟨g, off + k * 34, none⟩)) 27 rfl rfl hcur ?_ (by intro w' hS'; unfold execOp; simp [go_sem, m0, m1])
     refine tk 13 (.pointer (some ⟨g, off + k * 34 + 32, none⟩)) 28 rfl rfl hcur ?_
     refine tk 14 (.string tw) 29 rfl rfl hcur ?_ (by intro w' hS'; have q := hS'.2.2.2; unfold execOp; simp [go_sem, q])
     refine tk 15 (.string tv) 30 rfl rfl hcur ?_
     refine tk 16 (.bool true) 31 rfl rfl hcur ?_ (by intro w' hS'; unfold execOp; simp [go_sem, ht])
     refine tk 17 (.bool true) 32 rfl rfl hcur ?_
     refine wpAnyH_done (by kernel_rfl) ?_ _
     unfold NoPanic
     dsimp only
     clear hcur heqh hd
     clear ht
     have q1 := HC.out
     have q33 := HD.out
     go_wp2_with fail
     go_ret
     refine ⟨by rw [amtOf_at HR.out.2.2.2.1 HN.out HR.out.2.1]; rfl, ?_⟩
     have h := H1.out.2.2.1
     rw [HB.out.1] at h
     exact h.trans (HBD.out.1.mono h.size)
    ·
     have HN := Lib.hid (nm_ne (a := y) (p := p) (t := t) (.inr hte))
     have ht : ¬ tw.toList = tv.toList := fun e => hte (HR.out.2.2.2.2.2.2.2.2.mp e)
     clear hpe hte
     refine tk 0 (.pointer (some ⟨b3, 1, none⟩)) 15 rfl rfl hcur ?_
     refine tk 1 (.slice (some ⟨g, off, none⟩) l.length c) 16 rfl rfl hcur ?_ (by intro w' hS'; have q := hS'.1; unfold execOp; simp [go_sem, q])
     refine tk 2 (.int .i64 k) 17 rfl rfl hcur ?_
     refine tk 3 (.pointer (some ⟨g, off + k * 34, none⟩)) 18 rfl rfl hcur ?_ (by intro w' hS'; unfold execOp; simp [go_sem, m0, m1])
     refine tk 4 (.pointer (some ⟨g, off + k * 34, none⟩)) 19 rfl rfl hcur ?_
     refine tk 5 (.agg pw) 20 rfl rfl hcur ?_ (by intro w' hS'; exact exec_loadM 26 _ rfl _ _ rfl pw hS'.2.2.1 Tryz.underlying26 rfl HR.out.2.2.2.2.2.2.1)
     refine tk 6 (.agg pv) 21 rfl rfl hcur ?_ (by intro w' hS'; exact exec_loadM 26 _ rfl _ _ rfl pv hS'.2.1 Tryz.underlying26 rfl HR.out.2.2.2.2.2.2.2.1)
     refine tk 7 (.bool true) 22 rfl rfl hcur ?_ (by intro w' hS'; unfold execOp; simp [go_sem, heqh, hd])
     refine tk 8 (.bool true) 23 rfl rfl hcur ?_
     refine tk 9 (.pointer (some ⟨b3, 1, none⟩)) 24 rfl rfl hcur ?_
     refine tk 10 (.slice (some ⟨g, off, none⟩) l.length c) 25 rfl rfl hcur ?_ (by intro w' hS'; have q := hS'.1; unfold execOp; simp [go_sem, q])
     refine tk 11 (.int .i64 k) 26 rfl rfl hcur ?_
     refine tk 12 (.pointer (some ⟨g, off + k * 34, none⟩)) 27 rfl rfl hcur ?_ (by intro w' hS'; unfold execOp; simp [go_sem, m0, m1])
     refine tk 13 (.pointer (some ⟨g, off + k * 34 + 32, none⟩)) 28 rfl rfl hcur ?_
     refine tk 14 (.string tw) 29 rfl rfl hcur ?_ (by intro w' hS'; have q := hS'.2.2.2; unfold execOp; simp [go_sem, q])
     refine tk 15 (.string tv) 30 rfl rfl hcur ?_
     refine tk 16 (.bool false) 31 rfl rfl hcur ?_ (by intro w' hS'; unfold execOp; simp [go_sem, ht])
     refine tk 17 (.bool false) 32 rfl rfl hcur ?_
     refine wpAnyH_done (by kernel_rfl) ?_ _
     unfold NoPanic
     dsimp only
     clear hcur heqh hd
     clear ht
     go_wp2_with fail
     have e1 : (k : Int) + 1 = ((k + 1 : Nat) : Int) := by omega
     rw [e1]
     refine ⟨⟨k + 1, HR.out.2.2.1, rfl, HBD.out.1, fun i b hi hib => ?_⟩, ?_⟩
     ·
      by_cases e : i = k
      ·
       rw [e, HR.out.2.2.2.1] at hib
       rw [← Option.some.inj hib]
       exact HN.out
      ·
       exact HR.out.2.1 i b (by omega) hib
     ·
      have h := HR.out.2.2.1
      show l.length - (k + 1) < l.length - k
      omega
   ·
    have hd : decide (y.nm.1 = p) = false := decide_eq_false hpe
    have HN := Lib.hid (nm_ne (a := y) (p := p) (t := t) (.inl hpe))
    clear hpe
    refine tk 0 (.pointer (some ⟨b3, 1, none⟩)) 15 rfl rfl hcur ?_
    refine tk 1 (.slice (some ⟨g, off, none⟩) l.length c) 16 rfl rfl hcur ?_ (by intro w' hS'; have q := hS'.1; unfold execOp; simp [go_sem, q])
    refine tk 2 (.int .i64 k) 17 rfl rfl hcur ?_
    refine tk 3 (.pointer (some ⟨g, off + k * 34, none⟩)) 18 rfl rfl hcur ?_ (by intro w' hS'; unfold execOp; simp [go_sem, m0, m1])
    refine tk 4 (.pointer (some ⟨g, off + k * 34, none⟩)) 19 rfl rfl hcur ?_
    refine tk 5 (.agg pw) 20 rfl rfl hcur ?_ (by intro w' hS'; exact exec_loadM 26 _ rfl _ _ rfl pw hS'.2.2.1 Tryz.underlying26 rfl HR.out.2.2.2.2.2.2.1)
    refine tk 6 (.agg pv) 21 rfl rfl hcur ?_ (by intro w' hS'; exact exec_loadM 26 _ rfl _ _ rfl pv hS'.2.1 Tryz.underlying26 rfl HR.out.2.2.2.2.2.2.2.1)
    refine tk 7 (.bool false) 22 rfl rfl hcur ?_ (by intro w' hS'; unfold execOp; simp [go_sem, heqh, hd])
    refine tk 8 (.bool false) 23 rfl rfl hcur ?_
    refine held_skip (i := 9) rfl 24 rfl (by kernel_rfl) (by kernel_rfl) (by kernel_rfl) (fun _ _ _ h => h) (by rfl) hcur _ rfl ?_
    simp only [Act.put, List.setIfInBounds_toArray, List.set_cons_zero, List.set_cons_succ]
    refine held_skip (i := 10) rfl 25 rfl (by kernel_rfl) (by kernel_rfl) (by kernel_rfl) (fun _ _ _ h => h) (by rfl) hcur _ rfl ?_
    simp only [Act.put, List.setIfInBounds_toArray, List.set_cons_zero, List.set_cons_succ]
    refine held_skip (i := 11) rfl 26 rfl (by kernel_rfl) (by kernel_rfl) (by kernel_rfl) (fun _ _ _ h => h) (by rfl) hcur _ rfl ?_
    simp only [Act.put, List.setIfInBounds_toArray, List.set_cons_zero, List.set_cons_succ]
    refine held_skip (i := 12) rfl 27 rfl (by kernel_rfl) (by kernel_rfl) (by kernel_rfl) (fun _ _ _ h => h) (by rfl) hcur _ rfl ?_
    simp only [Act.put, List.setIfInBounds_toArray, List.set_cons_zero, List.set_cons_succ]
    refine held_skip (i := 13) rfl 28 rfl (by kernel_rfl) (by kernel_rfl) (by kernel_rfl) (fun _ _ _ h => h) (by rfl) hcur _ rfl ?_
    simp only [Act.put, List.setIfInBounds_toArray, List.set_cons_zero, List.set_cons_succ]
    refine held_skip (i := 14) rfl 29 rfl (by kernel_rfl) (by kernel_rfl) (by kernel_rfl) (fun _ _ _ h => h) (by rfl) hcur _ rfl ?_
    simp only [Act.put, List.setIfInBounds_toArray, List.set_cons_zero, List.set_cons_succ]
    refine held_skip (i := 15) rfl 30 rfl (by kernel_rfl) (by kernel_rfl) (by kernel_rfl) (fun _ _ _ h => h) (by rfl) hcur _ rfl ?_
    simp only [Act.put, List.setIfInBounds_toArray, List.set_cons_zero, List.set_cons_succ]
    refine held_skip (i := 16) rfl 31 rfl (by kernel_rfl) (by kernel_rfl) (by kernel_rfl) (fun _ _ _ h => h) (by rfl) hcur _ rfl ?_
    simp only [Act.put, List.setIfInBounds_toArray, List.set_cons_zero, List.set_cons_succ]
    refine tk 17 (.bool false) 32 rfl rfl hcur ?_
    refine wpAnyH_done (by kernel_rfl) ?_ _
    unfold NoPanic
    dsimp only
    clear hcur heqh hd
    go_wp2_with fail
    have e1 : (k : Int) + 1 = ((k + 1 : Nat) : Int) := by omega
    rw [e1]
    refine ⟨⟨k + 1, HR.out.2.2.1, rfl, HBD.out.1, fun i b hi hib => ?_⟩, ?_⟩
    ·
     by_cases e : i = k
     ·
      rw [e, HR.out.2.2.2.1] at hib
      rw [← Option.some.inj hib]
      exact HN.out
     ·
      exact HR.out.2.1 i b (by omega) hib
    ·
     have h := HR.out.2.2.1
     show l.length - (k + 1) < l.length - k
     omega
  ·
   have m1 : ¬ (k : Int) < (l.length : Int) := by omega
   have e1 : k = l.length := by omega
   have hno : amtOf l (p, t) = 0 := amtOf_no fun i b hib => hall i b (by rw [e1]; exact (List.getElem?_eq_some_iff.1 hib).1) hib
   have HE := Lib.hid (And.intro hno hb)
   clear hno hb hall hk hlt e1
   go_wp2_with fail
   go_ret
   refine ⟨by rw [HE.out.1]; rfl, ?_⟩
   have h := H1.out.2.2.1
   rw [HB.out.1] at h
   exact h.trans (HE.out.2.mono h.size)
end Go.Proofs.YtjngghihciimjaaGreat
