/-
  The document's own Of.
  How much work is it, just: what is not too much has few assets, and short names.
  Bundles, assets, hashes as they come in.
  Rows of bundles, and of assets, as they come in, with their room.
-/
import Derived.Test.YtjngghihciimjaaGreatJRg
import Derived.Test.YtjngghihciimjaaGreatJVf
import Derived.Test.YtjngghihciimjaaGreatJRj
import Derived.Test.YtjngghihciimjaaGreatJAh
import Derived.WalkKit
import Derived.ProofKit
import Derived.OpenShut
import Derived.Carry
import Derived.SizedLaws
import Derived.Deep.Slices
import Derived.ChangeSlices
namespace Go.Proofs.YtjngghihciimjaaGreat
set_option maxRecDepth 100000
open Go.RowKit Go.Sort Go.Maps

theorem keyed_hash : Tryz.prog.keyTypeAt 5 26 = true := by kernel_rfl
theorem formed_hash (p : List UInt8) (h : p.length = 32) : (Value.agg (B8 p)).formed Tryz.prog 26 = true := by
  obtain ⟨a0, a1, a2, a3, a4, a5, a6, a7, a8, a9, a10, a11, a12, a13, a14, a15, a16, a17, a18, a19, a20, a21, a22, a23, a24, a25, a26, a27, a28, a29, a30, a31, rfl⟩ := list32 p h
  kernel_rfl
theorem eq_hash (w : World) (p q : List UInt8) (hp : p.length = 32) (hq : q.length = 32) : (Op.equalIn 10000 26 (.agg (B8 p)) (.agg (B8 q))).run Tryz.prog w = .ok (decide (p = q)) w := by
  obtain ⟨r, hr, hi⟩ := run_equalIn_deep 9995 5 26 keyed_hash w 5 5 (.agg (B8 p)) (.agg (B8 q)) _ _ (formed_hash p hp) (formed_hash q hq) (litsH 3 p hp) (litsH 3 q hq)
  have e : r = decide (p = q) := by
    rw [Bool.eq_iff_iff, decide_eq_true_iff, hi]
    exact ⟨map_u8_inj, fun e => by rw [e]⟩
  rw [← e]
  exact hr
theorem txt_inj {s t : List UInt8} (h : txt s = txt t) : s = t := by
  rw [← txt_list s, h, txt_list]
theorem nm_ne {a : As} {p t : List UInt8} (h : a.nm.1 ≠ p ∨ a.nm.2 ≠ t) : a.nm ≠ (p, t) := fun e => by
  rw [e] at h
  rcases h with h | h <;> exact h rfl
set_option maxHeartbeats 8000000 in
theorem rof_any (w : World) (x : Int) (pa : Option Addr) (l : List As) (c : Nat) (p t : List UInt8) (h : Row w pa l) (hp : p.length = 32) :
    Calls Tryz.prog 19 #[.agg (vC x pa l.length c), .agg (B8 p), .string (txt t)] w fun e w' => e = .returned (.int .i64 (amtOf l (p, t))) ∧ Below w.heap.size w w' := by
  have hli : (l.length : Int) ≤ 9223372036854775807 := by have := h.1; unfold maxLen at this; omega
  obtain ⟨vv, hvv⟩ : ∃ v, v = vC x pa l.length c := ⟨_, rfl⟩
  obtain ⟨pv, hpv⟩ : ∃ v, v = B8 p := ⟨_, rfl⟩
  obtain ⟨tv, htv⟩ : ∃ v, v = txt t := ⟨_, rfl⟩
  have hps : pv.size = 32 := by rw [hpv, B8_size, hp]
  rw [← hvv, ← hpv, ← htv]
  have H := Lib.hid (And.intro h (And.intro hp (And.intro hvv (And.intro hpv (And.intro htv hps)))))
  clear h hp hvv hpv htv hps
  go_enter Tryz.func19, Tryz.ntmps19
  go_upto_region 1 with fail
  have hL1 : Lies ((w.alloc (.cells vv 24)).alloc (.cells pv 26)) w.heap.size vv 24 := (Lies.new _ _ _).alloc _
  have hL2 : Lies ((w.alloc (.cells vv 24)).alloc (.cells pv 26)) (w.heap.size + 1) pv 26 := by
    have := Lies.new (w.alloc (.cells vv 24)) pv 26
    simpa using this
  have hb0 : Below w.heap.size w ((w.alloc (.cells vv 24)).alloc (.cells pv 26)) := ((Below.refl _ _).alloc (Nat.le_refl _) _).alloc (by simp) _
  generalize (w.alloc (.cells vv 24)).alloc (.cells pv 26) = W1 at hL1 hL2 hb0 ⊢
  obtain ⟨b3, hb3⟩ : ∃ b, b = w.heap.size := ⟨_, rfl⟩
  obtain ⟨b4, hb4⟩ : ∃ b, b = w.heap.size + 1 := ⟨_, rfl⟩
  rw [← hb4] at hL2 ⊢
  rw [← hb3] at hL1 ⊢
  have hcx : W1.cell? ⟨b3, 1, none⟩ = some (.slice pa l.length c) := hL1.cell 1 (by rw [H.out.2.2.1]; rfl)
  have hrp : W1.rangeAt b4 0 pv.toList := range_lies hL2
  have H1 := Lib.hid (And.intro hL1 (And.intro hL2 (And.intro (show Below b3 w W1 by rw [hb3]; exact hb0) (And.intro hcx hrp))))
  have HB := Lib.hid (And.intro hb3 hb4)
  clear hL1 hL2 hb0 hb3 hb4 hcx hrp
  go_wp2_with fail
  go_loopw [7] (fun i W => ∃ k : Nat, k ≤ l.length ∧ i = .int .i64 k ∧ Below W1.heap.size W1 W ∧ ∀ (i : Nat) (b : As), i < k → l[i]? = some b → b.nm ≠ (p, t)) (fun i _ => l.length - (intOf i).toNat)
  case atStart => exact ⟨0, Nat.zero_le _, rfl, Below.refl _ _, fun i b hi => absurd hi (by omega)⟩
  case round =>
    obtain ⟨k, hk, rfl, hb, hall⟩ := hrel
    have hq1 := (hb.cell (p := ⟨b3, 1, none⟩) H1.out.1.lt).trans H1.out.2.2.2.1
    by_cases hlt : k < l.length
    · have m1 : (k : Int) < (l.length : Int) := by omega
      have m0 : (0 : Int) ≤ (k : Int) := by omega
      obtain ⟨g, off, rfl, hg, hh⟩ := H.out.1.2.2 (by omega)
      obtain ⟨y, hy⟩ : ∃ y, y = l[k] := ⟨_, rfl⟩
      have hky : l[k]? = some y := by rw [hy, List.getElem?_eq_getElem hlt]
      have oky := H.out.1.2.1 y (List.mem_of_getElem? hky)
      have hw1 : ∀ U, Below W1.heap.size W1 U → Below w.heap.size w U := fun U hU => by
        have h := H1.out.2.2.1
        rw [HB.out.1] at h
        exact h.trans (hU.mono h.size)
      have hrY : ∀ U, Below W1.heap.size W1 U → U.rangeAt g (off + k * 34) (asC y).toList := fun U hU => (hh.below (hw1 U hU) hg) k y hky
      obtain ⟨pw, hpw⟩ : ∃ v, v = B8 y.nm.1 := ⟨_, rfl⟩
      obtain ⟨tw, htw⟩ : ∃ v, v = txt y.nm.2 := ⟨_, rfl⟩
      have hsz1 : (Tryz.prog.info? 26).map (·.size) = some pw.size := by rw [hpw, B8_size, oky.1]; exact info_hash
      have hsz2 : (Tryz.prog.info? 26).map (·.size) = some pv.size := by rw [H.out.2.2.2.2.2]; exact info_hash
      have hS0 : ∀ U, Below W1.heap.size W1 U → U.cell? ⟨b3, 1, none⟩ = some (.slice (some ⟨g, off, none⟩) l.length c) ∧ U.rangeAt b4 0 pv.toList ∧ U.rangeAt g (off + k * 34) pw.toList ∧ U.cell? ⟨g, off + k * 34 + 32, none⟩ = some (.string tw) := fun U hU => by
        refine ⟨(hU.cell (p := ⟨b3, 1, none⟩) H1.out.1.lt).trans H1.out.2.2.2.1, range_lies (H1.out.2.1.below hU H1.out.2.1.lt), ?_, ?_⟩
        · rw [hpw]; exact asC_polR oky.1 (hrY U hU)
        · rw [htw]; exact asC_strR oky.1 (hrY U hU)
      have ham : ∀ U, Below W1.heap.size W1 U → U.cell? ⟨g, off + k * 34 + 33, none⟩ = some (.int .i64 y.amt) := fun U hU => asC_amtR oky.1 (hrY U hU)
      have heqh : ∀ W, (Op.equalIn 10000 26 (.agg pw) (.agg pv)).run Tryz.prog W = .ok (decide (y.nm.1 = p)) W := fun W => by
        rw [hpw, H.out.2.2.2.1]; exact eq_hash W _ _ oky.1 H.out.2.1
      have htq : tw.toList = tv.toList ↔ y.nm.2 = t := by
        rw [htw, H.out.2.2.2.2.1, txt_list, txt_list]
      have HR := Lib.hid (And.intro hb (And.intro hall (And.intro hlt (And.intro hky (And.intro hS0 (And.intro ham (And.intro hsz1 (And.intro hsz2 htq))))))))
      have HQ := Lib.hid heqh
      clear hb hall hlt hky hS0 ham hsz1 hsz2 htq heqh hrY hw1 oky hk hy hpw htw hg hh
      go_upto_region 4 with fail
      clear hq1
      refine wp_region_noPanic (wp_region_held (S := fun U => U.cell? ⟨b3, 1, none⟩ = some (.slice (some ⟨g, off, none⟩) l.length c) ∧ U.rangeAt b4 0 pv.toList ∧ U.rangeAt g (off + k * 34) pw.toList ∧ U.cell? ⟨g, off + k * 34 + 32, none⟩ = some (.string tw)) (by kernel_rfl) ?_)
      change wpAnyH _ _ _ _ _ 18 _ _ (World.drew wr)
      have hbd : Below W1.heap.size W1 wr.drew := HR.out.1.drew
      generalize World.drew wr = wd at hbd ⊢
      have hcur := HR.out.2.2.2.2.1 wd hbd
      have q1 := hcur.1
      have q33 := HR.out.2.2.2.2.2.1 wd hbd
      have HBD := Lib.hid (And.intro hbd hcur)
      have HC := Lib.hid q1
      have HD := Lib.hid q33
      clear hbd q1 q33
      have heqh := HQ.out
      by_cases hpe : y.nm.1 = p
      · have hd : decide (y.nm.1 = p) = true := decide_eq_true hpe
        by_cases hte : y.nm.2 = t
        · have HN := Lib.hid (show y.nm = (p, t) from Prod.ext hpe hte)
          have ht : tw.toList = tv.toList := HR.out.2.2.2.2.2.2.2.2.mpr hte
          clear hpe hte
          refine held_take (i := 0) (v := (.pointer (some ⟨b3, 1, none⟩))) rfl 15 rfl (by kernel_rfl) (by kernel_rfl) (by kernel_rfl) (fun _ _ _ h => h) (by rfl) (by intro w' hS'; unfold execOp; simp [go_sem]) hcur _ rfl ?_
          simp only [Act.put, List.setIfInBounds_toArray, List.set_cons_zero, List.set_cons_succ]
          refine held_take (i := 1) (v := (.slice (some ⟨g, off, none⟩) l.length c)) rfl 16 rfl (by kernel_rfl) (by kernel_rfl) (by kernel_rfl) (fun _ _ _ h => h) (by rfl) (by intro w' hS'; have q := hS'.1; unfold execOp; simp [go_sem, q]) hcur _ rfl ?_
          simp only [Act.put, List.setIfInBounds_toArray, List.set_cons_zero, List.set_cons_succ]
          refine held_take (i := 2) (v := (.int .i64 k)) rfl 17 rfl (by kernel_rfl) (by kernel_rfl) (by kernel_rfl) (fun _ _ _ h => h) (by rfl) (by intro w' hS'; unfold execOp; simp [go_sem]) hcur _ rfl ?_
          simp only [Act.put, List.setIfInBounds_toArray, List.set_cons_zero, List.set_cons_succ]
          refine held_take (i := 3) (v := (.pointer (some ⟨g, off + k * 34, none⟩))) rfl 18 rfl (by kernel_rfl) (by kernel_rfl) (by kernel_rfl) (fun _ _ _ h => h) (by rfl) (by intro w' hS'; unfold execOp; simp [go_sem, m0, m1]) hcur _ rfl ?_
          simp only [Act.put, List.setIfInBounds_toArray, List.set_cons_zero, List.set_cons_succ]
          refine held_take (i := 4) (v := (.pointer (some ⟨g, off + k * 34, none⟩))) rfl 19 rfl (by kernel_rfl) (by kernel_rfl) (by kernel_rfl) (fun _ _ _ h => h) (by rfl) (by intro w' hS'; unfold execOp; simp [go_sem]) hcur _ rfl ?_
          simp only [Act.put, List.setIfInBounds_toArray, List.set_cons_zero, List.set_cons_succ]
          refine held_take (i := 5) (v := (.agg pw)) rfl 20 rfl (by kernel_rfl) (by kernel_rfl) (by kernel_rfl) (fun _ _ _ h => h) (by rfl) (by intro w' hS'; exact exec_loadM 26 _ rfl _ _ rfl pw hS'.2.2.1 Tryz.underlying26 rfl HR.out.2.2.2.2.2.2.1) hcur _ rfl ?_
          simp only [Act.put, List.setIfInBounds_toArray, List.set_cons_zero, List.set_cons_succ]
          refine held_take (i := 6) (v := (.agg pv)) rfl 21 rfl (by kernel_rfl) (by kernel_rfl) (by kernel_rfl) (fun _ _ _ h => h) (by rfl) (by intro w' hS'; exact exec_loadM 26 _ rfl _ _ rfl pv hS'.2.1 Tryz.underlying26 rfl HR.out.2.2.2.2.2.2.2.1) hcur _ rfl ?_
          simp only [Act.put, List.setIfInBounds_toArray, List.set_cons_zero, List.set_cons_succ]
          refine held_take (i := 7) (v := (.bool true)) rfl 22 rfl (by kernel_rfl) (by kernel_rfl) (by kernel_rfl) (fun _ _ _ h => h) (by rfl) (by intro w' hS'; unfold execOp; simp [go_sem, heqh, hd]) hcur _ rfl ?_
          simp only [Act.put, List.setIfInBounds_toArray, List.set_cons_zero, List.set_cons_succ]
          refine held_take (i := 8) (v := (.bool true)) rfl 23 rfl (by kernel_rfl) (by kernel_rfl) (by kernel_rfl) (fun _ _ _ h => h) (by rfl) (by intro w' hS'; unfold execOp; simp [go_sem]) hcur _ rfl ?_
          simp only [Act.put, List.setIfInBounds_toArray, List.set_cons_zero, List.set_cons_succ]
          refine held_take (i := 9) (v := (.pointer (some ⟨b3, 1, none⟩))) rfl 24 rfl (by kernel_rfl) (by kernel_rfl) (by kernel_rfl) (fun _ _ _ h => h) (by rfl) (by intro w' hS'; unfold execOp; simp [go_sem]) hcur _ rfl ?_
          simp only [Act.put, List.setIfInBounds_toArray, List.set_cons_zero, List.set_cons_succ]
          refine held_take (i := 10) (v := (.slice (some ⟨g, off, none⟩) l.length c)) rfl 25 rfl (by kernel_rfl) (by kernel_rfl) (by kernel_rfl) (fun _ _ _ h => h) (by rfl) (by intro w' hS'; have q := hS'.1; unfold execOp; simp [go_sem, q]) hcur _ rfl ?_
          simp only [Act.put, List.setIfInBounds_toArray, List.set_cons_zero, List.set_cons_succ]
          refine held_take (i := 11) (v := (.int .i64 k)) rfl 26 rfl (by kernel_rfl) (by kernel_rfl) (by kernel_rfl) (fun _ _ _ h => h) (by rfl) (by intro w' hS'; unfold execOp; simp [go_sem]) hcur _ rfl ?_
          simp only [Act.put, List.setIfInBounds_toArray, List.set_cons_zero, List.set_cons_succ]
          refine held_take (i := 12) (v := (.pointer (some ⟨g, off + k * 34, none⟩))) rfl 27 rfl (by kernel_rfl) (by kernel_rfl) (by kernel_rfl) (fun _ _ _ h => h) (by rfl) (by intro w' hS'; unfold execOp; simp [go_sem, m0, m1]) hcur _ rfl ?_
          simp only [Act.put, List.setIfInBounds_toArray, List.set_cons_zero, List.set_cons_succ]
          refine held_take (i := 13) (v := (.pointer (some ⟨g, off + k * 34 + 32, none⟩))) rfl 28 rfl (by kernel_rfl) (by kernel_rfl) (by kernel_rfl) (fun _ _ _ h => h) (by rfl) (by intro w' hS'; unfold execOp; simp [go_sem]) hcur _ rfl ?_
          simp only [Act.put, List.setIfInBounds_toArray, List.set_cons_zero, List.set_cons_succ]
          refine held_take (i := 14) (v := (.string tw)) rfl 29 rfl (by kernel_rfl) (by kernel_rfl) (by kernel_rfl) (fun _ _ _ h => h) (by rfl) (by intro w' hS'; have q := hS'.2.2.2; unfold execOp; simp [go_sem, q]) hcur _ rfl ?_
          simp only [Act.put, List.setIfInBounds_toArray, List.set_cons_zero, List.set_cons_succ]
          refine held_take (i := 15) (v := (.string tv)) rfl 30 rfl (by kernel_rfl) (by kernel_rfl) (by kernel_rfl) (fun _ _ _ h => h) (by rfl) (by intro w' hS'; unfold execOp; simp [go_sem]) hcur _ rfl ?_
          simp only [Act.put, List.setIfInBounds_toArray, List.set_cons_zero, List.set_cons_succ]
          refine held_take (i := 16) (v := (.bool true)) rfl 31 rfl (by kernel_rfl) (by kernel_rfl) (by kernel_rfl) (fun _ _ _ h => h) (by rfl) (by intro w' hS'; unfold execOp; simp [go_sem, ht]) hcur _ rfl ?_
          simp only [Act.put, List.setIfInBounds_toArray, List.set_cons_zero, List.set_cons_succ]
          refine held_take (i := 17) (v := (.bool true)) rfl 32 rfl (by kernel_rfl) (by kernel_rfl) (by kernel_rfl) (fun _ _ _ h => h) (by rfl) (by intro w' hS'; unfold execOp; simp [go_sem]) hcur _ rfl ?_
          simp only [Act.put, List.setIfInBounds_toArray, List.set_cons_zero, List.set_cons_succ]
          refine wpAnyH_done (by kernel_rfl) ?_ _
          unfold NoPanic
          dsimp only
          clear hcur heqh hd
          clear ht
          have q1 := HC.out
          have q33 := HD.out
          go_wp2_with fail
          go_ret
          refine ⟨by rw [amtOf_at HR.out.2.2.2.1 HN.out HR.out.2.1]; rfl, ?_⟩
          have h := H1.out.2.2.1
          rw [HB.out.1] at h
          exact h.trans (HBD.out.1.mono h.size)
        · have HN := Lib.hid (nm_ne (a := y) (p := p) (t := t) (.inr hte))
          have ht : ¬ tw.toList = tv.toList := fun e => hte (HR.out.2.2.2.2.2.2.2.2.mp e)
          clear hpe hte
          refine held_take (i := 0) (v := (.pointer (some ⟨b3, 1, none⟩))) rfl 15 rfl (by kernel_rfl) (by kernel_rfl) (by kernel_rfl) (fun _ _ _ h => h) (by rfl) (by intro w' hS'; unfold execOp; simp [go_sem]) hcur _ rfl ?_
          simp only [Act.put, List.setIfInBounds_toArray, List.set_cons_zero, List.set_cons_succ]
          refine held_take (i := 1) (v := (.slice (some ⟨g, off, none⟩) l.length c)) rfl 16 rfl (by kernel_rfl) (by kernel_rfl) (by kernel_rfl) (fun _ _ _ h => h) (by rfl) (by intro w' hS'; have q := hS'.1; unfold execOp; simp [go_sem, q]) hcur _ rfl ?_
          simp only [Act.put, List.setIfInBounds_toArray, List.set_cons_zero, List.set_cons_succ]
          refine held_take (i := 2) (v := (.int .i64 k)) rfl 17 rfl (by kernel_rfl) (by kernel_rfl) (by kernel_rfl) (fun _ _ _ h => h) (by rfl) (by intro w' hS'; unfold execOp; simp [go_sem]) hcur _ rfl ?_
          simp only [Act.put, List.setIfInBounds_toArray, List.set_cons_zero, List.set_cons_succ]
          refine held_take (i := 3) (v := (.pointer (some ⟨g, off + k * 34, none⟩))) rfl 18 rfl (by kernel_rfl) (by kernel_rfl) (by kernel_rfl) (fun _ _ _ h => h) (by rfl) (by intro w' hS'; unfold execOp; simp [go_sem, m0, m1]) hcur _ rfl ?_
          simp only [Act.put, List.setIfInBounds_toArray, List.set_cons_zero, List.set_cons_succ]
          refine held_take (i := 4) (v := (.pointer (some ⟨g, off + k * 34, none⟩))) rfl 19 rfl (by kernel_rfl) (by kernel_rfl) (by kernel_rfl) (fun _ _ _ h => h) (by rfl) (by intro w' hS'; unfold execOp; simp [go_sem]) hcur _ rfl ?_
          simp only [Act.put, List.setIfInBounds_toArray, List.set_cons_zero, List.set_cons_succ]
          refine held_take (i := 5) (v := (.agg pw)) rfl 20 rfl (by kernel_rfl) (by kernel_rfl) (by kernel_rfl) (fun _ _ _ h => h) (by rfl) (by intro w' hS'; exact exec_loadM 26 _ rfl _ _ rfl pw hS'.2.2.1 Tryz.underlying26 rfl HR.out.2.2.2.2.2.2.1) hcur _ rfl ?_
          simp only [Act.put, List.setIfInBounds_toArray, List.set_cons_zero, List.set_cons_succ]
          refine held_take (i := 6) (v := (.agg pv)) rfl 21 rfl (by kernel_rfl) (by kernel_rfl) (by kernel_rfl) (fun _ _ _ h => h) (by rfl) (by intro w' hS'; exact exec_loadM 26 _ rfl _ _ rfl pv hS'.2.1 Tryz.underlying26 rfl HR.out.2.2.2.2.2.2.2.1) hcur _ rfl ?_
          simp only [Act.put, List.setIfInBounds_toArray, List.set_cons_zero, List.set_cons_succ]
          refine held_take (i := 7) (v := (.bool true)) rfl 22 rfl (by kernel_rfl) (by kernel_rfl) (by kernel_rfl) (fun _ _ _ h => h) (by rfl) (by intro w' hS'; unfold execOp; simp [go_sem, heqh, hd]) hcur _ rfl ?_
          simp only [Act.put, List.setIfInBounds_toArray, List.set_cons_zero, List.set_cons_succ]
          refine held_take (i := 8) (v := (.bool true)) rfl 23 rfl (by kernel_rfl) (by kernel_rfl) (by kernel_rfl) (fun _ _ _ h => h) (by rfl) (by intro w' hS'; unfold execOp; simp [go_sem]) hcur _ rfl ?_
          simp only [Act.put, List.setIfInBounds_toArray, List.set_cons_zero, List.set_cons_succ]
          refine held_take (i := 9) (v := (.pointer (some ⟨b3, 1, none⟩))) rfl 24 rfl (by kernel_rfl) (by kernel_rfl) (by kernel_rfl) (fun _ _ _ h => h) (by rfl) (by intro w' hS'; unfold execOp; simp [go_sem]) hcur _ rfl ?_
          simp only [Act.put, List.setIfInBounds_toArray, List.set_cons_zero, List.set_cons_succ]
          refine held_take (i := 10) (v := (.slice (some ⟨g, off, none⟩) l.length c)) rfl 25 rfl (by kernel_rfl) (by kernel_rfl) (by kernel_rfl) (fun _ _ _ h => h) (by rfl) (by intro w' hS'; have q := hS'.1; unfold execOp; simp [go_sem, q]) hcur _ rfl ?_
          simp only [Act.put, List.setIfInBounds_toArray, List.set_cons_zero, List.set_cons_succ]
          refine held_take (i := 11) (v := (.int .i64 k)) rfl 26 rfl (by kernel_rfl) (by kernel_rfl) (by kernel_rfl) (fun _ _ _ h => h) (by rfl) (by intro w' hS'; unfold execOp; simp [go_sem]) hcur _ rfl ?_
          simp only [Act.put, List.setIfInBounds_toArray, List.set_cons_zero, List.set_cons_succ]
          refine held_take (i := 12) (v := (.pointer (some ⟨g, off + k * 34, none⟩))) rfl 27 rfl (by kernel_rfl) (by kernel_rfl) (by kernel_rfl) (fun _ _ _ h => h) (by rfl) (by intro w' hS'; unfold execOp; simp [go_sem, m0, m1]) hcur _ rfl ?_
          simp only [Act.put, List.setIfInBounds_toArray, List.set_cons_zero, List.set_cons_succ]
          refine held_take (i := 13) (v := (.pointer (some ⟨g, off + k * 34 + 32, none⟩))) rfl 28 rfl (by kernel_rfl) (by kernel_rfl) (by kernel_rfl) (fun _ _ _ h => h) (by rfl) (by intro w' hS'; unfold execOp; simp [go_sem]) hcur _ rfl ?_
          simp only [Act.put, List.setIfInBounds_toArray, List.set_cons_zero, List.set_cons_succ]
          refine held_take (i := 14) (v := (.string tw)) rfl 29 rfl (by kernel_rfl) (by kernel_rfl) (by kernel_rfl) (fun _ _ _ h => h) (by rfl) (by intro w' hS'; have q := hS'.2.2.2; unfold execOp; simp [go_sem, q]) hcur _ rfl ?_
          simp only [Act.put, List.setIfInBounds_toArray, List.set_cons_zero, List.set_cons_succ]
          refine held_take (i := 15) (v := (.string tv)) rfl 30 rfl (by kernel_rfl) (by kernel_rfl) (by kernel_rfl) (fun _ _ _ h => h) (by rfl) (by intro w' hS'; unfold execOp; simp [go_sem]) hcur _ rfl ?_
          simp only [Act.put, List.setIfInBounds_toArray, List.set_cons_zero, List.set_cons_succ]
          refine held_take (i := 16) (v := (.bool false)) rfl 31 rfl (by kernel_rfl) (by kernel_rfl) (by kernel_rfl) (fun _ _ _ h => h) (by rfl) (by intro w' hS'; unfold execOp; simp [go_sem, ht]) hcur _ rfl ?_
          simp only [Act.put, List.setIfInBounds_toArray, List.set_cons_zero, List.set_cons_succ]
          refine held_take (i := 17) (v := (.bool false)) rfl 32 rfl (by kernel_rfl) (by kernel_rfl) (by kernel_rfl) (fun _ _ _ h => h) (by rfl) (by intro w' hS'; unfold execOp; simp [go_sem]) hcur _ rfl ?_
          simp only [Act.put, List.setIfInBounds_toArray, List.set_cons_zero, List.set_cons_succ]
          refine wpAnyH_done (by kernel_rfl) ?_ _
          unfold NoPanic
          dsimp only
          clear hcur heqh hd
          clear ht
          go_wp2_with fail
          have e1 : (k : Int) + 1 = ((k + 1 : Nat) : Int) := by omega
          rw [e1]
          refine ⟨⟨k + 1, HR.out.2.2.1, rfl, HBD.out.1, fun i b hi hib => ?_⟩, ?_⟩
          · by_cases e : i = k
            · rw [e, HR.out.2.2.2.1] at hib
              rw [← Option.some.inj hib]
              exact HN.out
            · exact HR.out.2.1 i b (by omega) hib
          · have h := HR.out.2.2.1
            show l.length - (k + 1) < l.length - k
            omega
      · have hd : decide (y.nm.1 = p) = false := decide_eq_false hpe
        have HN := Lib.hid (nm_ne (a := y) (p := p) (t := t) (.inl hpe))
        clear hpe
        refine held_take (i := 0) (v := (.pointer (some ⟨b3, 1, none⟩))) rfl 15 rfl (by kernel_rfl) (by kernel_rfl) (by kernel_rfl) (fun _ _ _ h => h) (by rfl) (by intro w' hS'; unfold execOp; simp [go_sem]) hcur _ rfl ?_
        simp only [Act.put, List.setIfInBounds_toArray, List.set_cons_zero, List.set_cons_succ]
        refine held_take (i := 1) (v := (.slice (some ⟨g, off, none⟩) l.length c)) rfl 16 rfl (by kernel_rfl) (by kernel_rfl) (by kernel_rfl) (fun _ _ _ h => h) (by rfl) (by intro w' hS'; have q := hS'.1; unfold execOp; simp [go_sem, q]) hcur _ rfl ?_
        simp only [Act.put, List.setIfInBounds_toArray, List.set_cons_zero, List.set_cons_succ]
        refine held_take (i := 2) (v := (.int .i64 k)) rfl 17 rfl (by kernel_rfl) (by kernel_rfl) (by kernel_rfl) (fun _ _ _ h => h) (by rfl) (by intro w' hS'; unfold execOp; simp [go_sem]) hcur _ rfl ?_
        simp only [Act.put, List.setIfInBounds_toArray, List.set_cons_zero, List.set_cons_succ]
        refine held_take (i := 3) (v := (.pointer (some ⟨g, off + k * 34, none⟩))) rfl 18 rfl (by kernel_rfl) (by kernel_rfl) (by kernel_rfl) (fun _ _ _ h => h) (by rfl) (by intro w' hS'; unfold execOp; simp [go_sem, m0, m1]) hcur _ rfl ?_
        simp only [Act.put, List.setIfInBounds_toArray, List.set_cons_zero, List.set_cons_succ]
        refine held_take (i := 4) (v := (.pointer (some ⟨g, off + k * 34, none⟩))) rfl 19 rfl (by kernel_rfl) (by kernel_rfl) (by kernel_rfl) (fun _ _ _ h => h) (by rfl) (by intro w' hS'; unfold execOp; simp [go_sem]) hcur _ rfl ?_
        simp only [Act.put, List.setIfInBounds_toArray, List.set_cons_zero, List.set_cons_succ]
        refine held_take (i := 5) (v := (.agg pw)) rfl 20 rfl (by kernel_rfl) (by kernel_rfl) (by kernel_rfl) (fun _ _ _ h => h) (by rfl) (by intro w' hS'; exact exec_loadM 26 _ rfl _ _ rfl pw hS'.2.2.1 Tryz.underlying26 rfl HR.out.2.2.2.2.2.2.1) hcur _ rfl ?_
        simp only [Act.put, List.setIfInBounds_toArray, List.set_cons_zero, List.set_cons_succ]
        refine held_take (i := 6) (v := (.agg pv)) rfl 21 rfl (by kernel_rfl) (by kernel_rfl) (by kernel_rfl) (fun _ _ _ h => h) (by rfl) (by intro w' hS'; exact exec_loadM 26 _ rfl _ _ rfl pv hS'.2.1 Tryz.underlying26 rfl HR.out.2.2.2.2.2.2.2.1) hcur _ rfl ?_
        simp only [Act.put, List.setIfInBounds_toArray, List.set_cons_zero, List.set_cons_succ]
        refine held_take (i := 7) (v := (.bool false)) rfl 22 rfl (by kernel_rfl) (by kernel_rfl) (by kernel_rfl) (fun _ _ _ h => h) (by rfl) (by intro w' hS'; unfold execOp; simp [go_sem, heqh, hd]) hcur _ rfl ?_
        simp only [Act.put, List.setIfInBounds_toArray, List.set_cons_zero, List.set_cons_succ]
        refine held_take (i := 8) (v := (.bool false)) rfl 23 rfl (by kernel_rfl) (by kernel_rfl) (by kernel_rfl) (fun _ _ _ h => h) (by rfl) (by intro w' hS'; unfold execOp; simp [go_sem]) hcur _ rfl ?_
        simp only [Act.put, List.setIfInBounds_toArray, List.set_cons_zero, List.set_cons_succ]
        refine held_skip (i := 9) rfl 24 rfl (by kernel_rfl) (by kernel_rfl) (by kernel_rfl) (fun _ _ _ h => h) (by rfl) hcur _ rfl ?_
        simp only [Act.put, List.setIfInBounds_toArray, List.set_cons_zero, List.set_cons_succ]
        refine held_skip (i := 10) rfl 25 rfl (by kernel_rfl) (by kernel_rfl) (by kernel_rfl) (fun _ _ _ h => h) (by rfl) hcur _ rfl ?_
        simp only [Act.put, List.setIfInBounds_toArray, List.set_cons_zero, List.set_cons_succ]
        refine held_skip (i := 11) rfl 26 rfl (by kernel_rfl) (by kernel_rfl) (by kernel_rfl) (fun _ _ _ h => h) (by rfl) hcur _ rfl ?_
        simp only [Act.put, List.setIfInBounds_toArray, List.set_cons_zero, List.set_cons_succ]
        refine held_skip (i := 12) rfl 27 rfl (by kernel_rfl) (by kernel_rfl) (by kernel_rfl) (fun _ _ _ h => h) (by rfl) hcur _ rfl ?_
        simp only [Act.put, List.setIfInBounds_toArray, List.set_cons_zero, List.set_cons_succ]
        refine held_skip (i := 13) rfl 28 rfl (by kernel_rfl) (by kernel_rfl) (by kernel_rfl) (fun _ _ _ h => h) (by rfl) hcur _ rfl ?_
        simp only [Act.put, List.setIfInBounds_toArray, List.set_cons_zero, List.set_cons_succ]
        refine held_skip (i := 14) rfl 29 rfl (by kernel_rfl) (by kernel_rfl) (by kernel_rfl) (fun _ _ _ h => h) (by rfl) hcur _ rfl ?_
        simp only [Act.put, List.setIfInBounds_toArray, List.set_cons_zero, List.set_cons_succ]
        refine held_skip (i := 15) rfl 30 rfl (by kernel_rfl) (by kernel_rfl) (by kernel_rfl) (fun _ _ _ h => h) (by rfl) hcur _ rfl ?_
        simp only [Act.put, List.setIfInBounds_toArray, List.set_cons_zero, List.set_cons_succ]
        refine held_skip (i := 16) rfl 31 rfl (by kernel_rfl) (by kernel_rfl) (by kernel_rfl) (fun _ _ _ h => h) (by rfl) hcur _ rfl ?_
        simp only [Act.put, List.setIfInBounds_toArray, List.set_cons_zero, List.set_cons_succ]
        refine held_take (i := 17) (v := (.bool false)) rfl 32 rfl (by kernel_rfl) (by kernel_rfl) (by kernel_rfl) (fun _ _ _ h => h) (by rfl) (by intro w' hS'; unfold execOp; simp [go_sem]) hcur _ rfl ?_
        simp only [Act.put, List.setIfInBounds_toArray, List.set_cons_zero, List.set_cons_succ]
        refine wpAnyH_done (by kernel_rfl) ?_ _
        unfold NoPanic
        dsimp only
        clear hcur heqh hd
        go_wp2_with fail
        have e1 : (k : Int) + 1 = ((k + 1 : Nat) : Int) := by omega
        rw [e1]
        refine ⟨⟨k + 1, HR.out.2.2.1, rfl, HBD.out.1, fun i b hi hib => ?_⟩, ?_⟩
        · by_cases e : i = k
          · rw [e, HR.out.2.2.2.1] at hib
            rw [← Option.some.inj hib]
            exact HN.out
          · exact HR.out.2.1 i b (by omega) hib
        · have h := HR.out.2.2.1
          show l.length - (k + 1) < l.length - k
          omega
    · have m1 : ¬ (k : Int) < (l.length : Int) := by omega
      have e1 : k = l.length := by omega
      have hno : amtOf l (p, t) = 0 := amtOf_no fun i b hib => hall i b (by rw [e1]; exact (List.getElem?_eq_some_iff.1 hib).1) hib
      have HE := Lib.hid (And.intro hno hb)
      clear hno hb hall hk hlt e1
      go_wp2_with fail
      go_ret
      refine ⟨by rw [HE.out.1]; rfl, ?_⟩
      have h := H1.out.2.2.1
      rw [HB.out.1] at h
      exact h.trans (HE.out.2.mono h.size)
end Go.Proofs.YtjngghihciimjaaGreat
namespace Go.Proofs.YtjngghihciimjaaGreat
set_option maxRecDepth 100000
open Go.RowKit Go.Sort

/-- What AssetsOf counts. -/
def cntA (l : List As) : Nat := (l.map fun a => 1 + a.nm.2.length / 16).sum
theorem cntA_take {l : List As} {k : Nat} {a : As} (h : l[k]? = some a) : cntA (l.take (k + 1)) = cntA (l.take k) + (1 + a.nm.2.length / 16) := by
  unfold cntA
  rw [List.take_add_one, h, List.map_append, List.sum_append]
  simp
theorem cntA_len : ∀ l : List As, l.length ≤ cntA l
  | [] => Nat.zero_le _
  | a :: l => by
    have h := cntA_len l
    unfold cntA at h ⊢
    simp only [List.map_cons, List.sum_cons, List.length_cons]
    omega
theorem cntA_mem : ∀ {l : List As} {a : As}, a ∈ l → a.nm.2.length / 16 ≤ cntA l
  | b :: l, a, h => by
    unfold cntA
    simp only [List.map_cons, List.sum_cons]
    rcases List.mem_cons.1 h with rfl | h
    · omega
    · have := cntA_mem h
      unfold cntA at this
      omega
def CntRes (x : Nat) (lim B : Int) (e : Ending) : Prop := ∃ n : Nat, e = .returned (.int .i64 n) ∧ (n : Int) ≤ B ∧ ((n : Int) ≤ lim → n = x)
set_option maxHeartbeats 4000000 in
theorem assetsX_any (w : World) (pa : Option Addr) (l : List As) (c : Nat) (lim : Int) (h : Row w pa l) (hlim : lim ≤ 1000000) :
    Calls Tryz.prog 130 #[.slice pa l.length c, .int .i64 lim] w fun e w' => CntRes (cntA l) lim 600000000000000000 e ∧ Below w.heap.size w w' := by
  have hli : (l.length : Int) ≤ 9223372036854775807 := by have := h.1; unfold maxLen at this; omega
  have H := Lib.hid (And.intro h hlim)
  clear h hlim
  go_enter Tryz.func130, Tryz.ntmps130
  go_wp2_with fail
  go_loopw [5, 6] (fun s i W => ∃ (k n : Nat), k ≤ l.length ∧ s = .int .i64 n ∧ i = .int .i64 k ∧ Below w.heap.size w W ∧ n = cntA (l.take k) ∧ (n : Int) ≤ 600000000000000000) (fun _ i _ => l.length - (intOf i).toNat)
  case atStart => exact ⟨0, 0, Nat.zero_le _, rfl, rfl, Below.refl _ _, rfl, by omega⟩
  case round =>
    obtain ⟨k, n, hk, rfl, rfl, hb, hcn, hn0⟩ := hrel
    by_cases hlt : k < l.length
    · have m1 : (k : Int) < (l.length : Int) := by omega
      have m0 : (0 : Int) ≤ (k : Int) := by omega
      by_cases hn : (n : Int) ≤ lim
      · obtain ⟨g, off, rfl, hg, hh⟩ := H.out.1.2.2 (by omega)
        obtain ⟨a, ha⟩ : ∃ a, a = l[k] := ⟨_, rfl⟩
        have hka : l[k]? = some a := by rw [ha, List.getElem?_eq_getElem hlt]
        have oka := H.out.1.2.1 a (List.mem_of_getElem? hka)
        have c32 := (hh.below hb hg) k a hka 32 (.string (txt a.nm.2)) (by rw [Array.getElem?_toList]; exact asC_txt a oka.1)
        have hts := txt_size a.nm.2
        have ht := oka.2.1
        have hl := H.out.2
        have hnx : n + (1 + (txt a.nm.2).size / 16) = cntA (l.take (k + 1)) := by rw [cntA_take hka, ← hcn, hts]
        generalize txt a.nm.2 = tv at c32 hts hnx
        have hti : (tv.size : Int) ≤ 9223372036854775807 := by unfold maxLen at ht; omega
        obtain ⟨z, hz⟩ : ∃ z, z = tv.size / 16 := ⟨_, rfl⟩
        have hzl : z ≤ 576460752303423488 := by omega
        have hdiv : Int.tdiv (tv.size : Int) 16 = (z : Int) := by rw [hz]; rfl
        have hw1 : IntKind.i64.wrap ((n : Int) + 1) = (n : Int) + 1 := by rw [IntKind.wrap_i64]; omega
        have hwz : IntKind.i64.wrap (z : Int) = (z : Int) := by rw [IntKind.wrap_i64]; omega
        have hw2 : IntKind.i64.wrap ((n : Int) + 1 + (z : Int)) = (n : Int) + 1 + (z : Int) := by rw [IntKind.wrap_i64]; omega
        rw [← hz] at hnx
        have hnl : ((n + (1 + z) : Nat) : Int) ≤ 600000000000000000 := by omega
        have HR := Lib.hid (And.intro hb (And.intro hlt (And.intro hnx hnl)))
        clear ha hka oka hg hh hb hlt hk hts ht hcn hl hz hzl hnx hn0 hnl
        go_wp2_with fail
        have e1 : (k : Int) + 1 = ((k + 1 : Nat) : Int) := by omega
        have e2 : (n : Int) + 1 + (z : Int) = ((n + (1 + z) : Nat) : Int) := by omega
        rw [e1, e2]
        refine ⟨⟨k + 1, n + (1 + z), HR.out.2.1, rfl, rfl, HR.out.1, HR.out.2.2.1, HR.out.2.2.2⟩, ?_⟩
        have h := HR.out.2.1
        show l.length - (k + 1) < l.length - k
        omega
      · have HB := Lib.hid (And.intro hb (And.intro hn0 hn))
        clear hb hlt hk hcn hn0
        go_wp2_with fail
        go_ret
        exact ⟨⟨n, rfl, HB.out.2.1, fun h => absurd h (by have := HB.out.2.2; omega)⟩, HB.out.1⟩
    · have m1 : ¬ (k : Int) < (l.length : Int) := by omega
      have hkl : k = l.length := by omega
      subst hkl
      rw [List.take_length] at hcn
      have HB := Lib.hid (And.intro hb (And.intro hn0 hcn))
      clear hb hlt hk hcn hn0
      go_wp2_with fail
      go_ret
      exact ⟨⟨n, rfl, HB.out.2.1, fun _ => HB.out.2.2⟩, HB.out.1⟩
def cntV (v : Va) : Nat := 1 + cntA v.l
set_option maxHeartbeats 1000000 in
theorem valueX_any (w : World) (x : Int) (pa : Option Addr) (l : List As) (c : Nat) (lim : Int) (h : Row w pa l) (hlim : lim ≤ 1000000) :
    Calls Tryz.prog 84 #[.agg #[.int .i64 x, .slice pa l.length c], .int .i64 lim] w fun e w' => CntRes (1 + cntA l) lim 600000000000000001 e ∧ Below w.heap.size w w' := by
  have hli : (l.length : Int) ≤ 9223372036854775807 := by have := h.1; unfold maxLen at this; omega
  have hb1 : Below w.heap.size w (w.alloc (.cells #[.int .i64 x, .slice pa l.length c] 24)) := (Below.refl _ _).alloc (Nat.le_refl _) _
  have hL : Lies (w.alloc (.cells #[.int .i64 x, .slice pa l.length c] 24)) w.heap.size #[.int .i64 x, .slice pa l.length c] 24 := Lies.new _ _ _
  have hC := assetsX_any _ pa l c lim (h.below hb1 (Nat.le_refl _)) hlim
  have H := Lib.hid (And.intro hC (And.intro hb1 hlim))
  have c0 := hL.cell 0 (v := .int .i64 x) rfl
  have c1 := hL.cell 1 (v := .slice pa l.length c) rfl
  clear h hC hb1 hL hlim
  go_enter Tryz.func84, Tryz.ntmps84
  go_wp2_with fail
  refine H.out.1.mono ?_
  rintro e w2 ⟨⟨n, rfl, hn0, hn⟩, hb2⟩
  have hw : IntKind.i64.wrap (1 + (n : Int)) = 1 + (n : Int) := by rw [IntKind.wrap_i64]; omega
  have HB := Lib.hid (And.intro (H.out.2.1.trans (hb2.mono H.out.2.1.size)) (And.intro hn0 hn))
  clear hb2 c0 c1 hn0 hn
  go_wp2_with fail
  go_ret
  have h0 := HB.out.2.1
  have h1 := HB.out.2.2
  have hl := H.out.2.2
  refine ⟨⟨1 + n, by push_cast; rfl, by omega, fun h => by have := h1 (by omega); omega⟩, HB.out.1⟩
def cntVs (vs : List Va) : Nat := (vs.map cntV).sum
theorem cntVs_take {vs : List Va} {k : Nat} {v : Va} (h : vs[k]? = some v) : cntVs (vs.take (k + 1)) = cntVs (vs.take k) + cntV v := by
  unfold cntVs
  rw [List.take_add_one, h, List.map_append, List.sum_append]
  simp
set_option maxHeartbeats 4000000 in
theorem valuesX_any (w : World) (pa : Option Addr) (vs : List Va) (c : Nat) (lim : Int) (h : RowV w pa vs) (hlim : lim ≤ 1000000) :
    Calls Tryz.prog 48 #[.slice pa vs.length c, .int .i64 lim] w fun e w' => CntRes (cntVs vs) lim 600000000002000000 e ∧ Below w.heap.size w w' := by
  have hli : (vs.length : Int) ≤ 9223372036854775807 := by have := h.1; unfold maxLen at this; omega
  have H := Lib.hid (And.intro h hlim)
  clear h hlim
  go_enter Tryz.func48, Tryz.ntmps48
  go_wp2_with fail
  go_loopw [5, 6] (fun s i W => ∃ (k n : Nat), k ≤ vs.length ∧ s = .int .i64 n ∧ i = .int .i64 k ∧ Below w.heap.size w W ∧ (n : Int) ≤ 600000000002000000 ∧ ((n : Int) ≤ lim → n = cntVs (vs.take k))) (fun _ i _ => vs.length - (intOf i).toNat)
  case atStart => exact ⟨0, 0, Nat.zero_le _, rfl, rfl, Below.refl _ _, by omega, fun _ => rfl⟩
  case round =>
    obtain ⟨k, n, hk, rfl, rfl, hb, hn0, hcn⟩ := hrel
    by_cases hlt : k < vs.length
    · have m1 : (k : Int) < (vs.length : Int) := by omega
      have m0 : (0 : Int) ≤ (k : Int) := by omega
      by_cases hn : (n : Int) ≤ lim
      · obtain ⟨g, off, rfl, hg, hh⟩ := H.out.1.2 (by omega)
        obtain ⟨v, hv⟩ : ∃ v, v = vs[k] := ⟨_, rfl⟩
        have hkv : vs[k]? = some v := by rw [hv, List.getElem?_eq_getElem hlt]
        have hvv := hh.below hb hg (Nat.le_refl _) k v hkv
        have c0 := hvv.1 0 (.int .i64 v.coin) rfl
        have c1 := hvv.1 1 (.slice v.pa v.l.length v.c) rfl
        have hcall : ∀ W, Below w.heap.size w W → Calls Tryz.prog 84 #[.agg #[.int .i64 v.coin, .slice v.pa v.l.length v.c], .int .i64 lim] W fun e w' => CntRes (cntV v) lim 600000000000000001 e ∧ Below W.heap.size W w' := fun W hW =>
          valueX_any W v.coin v.pa v.l v.c lim ((hh k v hkv).2.2.2.below hW (Nat.le_refl _)) H.out.2
        have HC := Lib.hid hcall
        have HR := Lib.hid (And.intro hb (And.intro hlt (And.intro hkv (And.intro (hcn hn) hn))))
        rw [Nat.add_zero] at c0
        clear hv hkv hvv hcall hg hh hb hlt hk hcn hn0
        go_wp2_with fail
        refine (HC.out _ HR.out.1).mono ?_
        rintro e w2 ⟨⟨m, rfl, hm0, hm⟩, hb2⟩
        have hl := H.out.2
        have hw : IntKind.i64.wrap ((n : Int) + (m : Int)) = (n : Int) + (m : Int) := by rw [IntKind.wrap_i64]; omega
        have hbd : ((n + m : Nat) : Int) ≤ 600000000002000000 := by omega
        have HB2 := Lib.hid (And.intro (HR.out.1.trans (hb2.mono HR.out.1.size)) (And.intro hm hbd))
        clear hb2 c0 c1 hm hm0 hl hbd
        go_wp2_with fail
        have e1 : (k : Int) + 1 = ((k + 1 : Nat) : Int) := by omega
        have e2 : (n : Int) + (m : Int) = ((n + m : Nat) : Int) := by omega
        rw [e1, e2]
        refine ⟨⟨k + 1, n + m, HR.out.2.1, rfl, rfl, HB2.out.1, HB2.out.2.2, fun h => ?_⟩, ?_⟩
        · rw [cntVs_take HR.out.2.2.1, ← HR.out.2.2.2.1, HB2.out.2.1 (by omega)]
        · have h := HR.out.2.1
          show vs.length - (k + 1) < vs.length - k
          omega
      · have HB := Lib.hid (And.intro hb (And.intro hn0 hn))
        clear hb hlt hk hcn hn0
        go_wp2_with fail
        go_ret
        exact ⟨⟨n, rfl, HB.out.2.1, fun h => absurd h (by have := HB.out.2.2; omega)⟩, HB.out.1⟩
    · have m1 : ¬ (k : Int) < (vs.length : Int) := by omega
      have hkl : k = vs.length := by omega
      subst hkl
      rw [List.take_length] at hcn
      have HB := Lib.hid (And.intro hb (And.intro hn0 hcn))
      clear hb hlt hk hcn hn0
      go_wp2_with fail
      go_ret
      exact ⟨⟨n, rfl, HB.out.2.1, HB.out.2.2⟩, HB.out.1⟩
/-- Not too much: so little. -/
def GreatX (rs : List Vr) (e : Ending) : Prop := ∃ b, e = .returned (.bool b) ∧ (b = false → (rs.map fun r => cntVs r.vs).sum ≤ 200)
def cntRs (rs : List Vr) : Nat := (rs.map fun r => cntVs r.vs).sum
theorem cntRs_take {rs : List Vr} {k : Nat} {r : Vr} (h : rs[k]? = some r) : cntRs (rs.take (k + 1)) = cntRs (rs.take k) + cntVs r.vs := by
  unfold cntRs
  rw [List.take_add_one, h, List.map_append, List.sum_append]
  simp
set_option maxHeartbeats 4000000 in
theorem greatX_any (w : World) (pa : Option Addr) (rs : List Vr) (c : Nat) (h : RowR w pa rs) (h10 : rs.length ≤ 10) :
    Calls Tryz.prog 7 #[.slice pa rs.length c] w fun e w' => GreatX rs e ∧ Below w.heap.size w w' := by
  have hli : (rs.length : Int) ≤ 9223372036854775807 := by omega
  have H := Lib.hid (And.intro h h10)
  clear h h10
  go_enter Tryz.func7, Tryz.ntmps7
  go_wp2_with fail
  go_loopw [3, 4] (fun s i W => ∃ (k n : Nat), k ≤ rs.length ∧ s = .int .i64 n ∧ i = .int .i64 k ∧ Below w.heap.size w W ∧ n ≤ 600000000002000000 * k ∧ (n ≤ 200 → cntRs (rs.take k) = n)) (fun _ i _ => rs.length - (intOf i).toNat)
  case atStart => exact ⟨0, 0, Nat.zero_le _, rfl, rfl, Below.refl _ _, by omega, fun _ => rfl⟩
  case round =>
    obtain ⟨k, n, hk, rfl, rfl, hb, hn0, hcn⟩ := hrel
    by_cases hlt : k < rs.length
    · have m1 : (k : Int) < (rs.length : Int) := by omega
      have m0 : (0 : Int) ≤ (k : Int) := by omega
      obtain ⟨g, off, rfl, hg, hh⟩ := H.out.1.2 (by omega)
      obtain ⟨r, hr⟩ : ∃ r, r = rs[k] := ⟨_, rfl⟩
      have hkr : rs[k]? = some r := by rw [hr, List.getElem?_eq_getElem hlt]
      have c0 := (hb.cell (p := ⟨g, off + k, none⟩) hg).trans (hh k r hkr).1
      have HC := Lib.hid (fun W (hW : Below w.heap.size w W) => valuesX_any W r.pa r.vs r.c 200 ((hh k r hkr).2.below hW (Nat.le_refl _)) (by decide))
      have HR := Lib.hid (And.intro hb (And.intro hlt (And.intro hkr (And.intro hcn hn0))))
      clear hr hkr hg hh hb hlt hk hcn hn0
      go_wp2_with fail
      refine (HC.out _ (by first | exact HR.out.1 | exact HR.out.1.drew)).mono ?_
      rintro e w2 ⟨⟨m, rfl, hm0, hm⟩, hb2⟩
      have h0 := HR.out.2.2.2.2
      have hl := HR.out.2.1
      have h10 := H.out.2
      have hw : IntKind.i64.wrap ((n : Int) + (m : Int)) = (n : Int) + (m : Int) := by rw [IntKind.wrap_i64]; omega
      have hbd : n + m ≤ 600000000002000000 * (k + 1) := by omega
      have HB2 := Lib.hid (And.intro (HR.out.1.trans (hb2.mono HR.out.1.size)) (And.intro hm hbd))
      clear hb2 c0 hm hm0 h0 hl h10 hbd
      go_wp2_with fail
      have e1 : (k : Int) + 1 = ((k + 1 : Nat) : Int) := by omega
      have e2 : (n : Int) + (m : Int) = ((n + m : Nat) : Int) := by omega
      rw [e1, e2]
      refine ⟨⟨k + 1, n + m, HR.out.2.1, rfl, rfl, HB2.out.1, HB2.out.2.2, fun h => ?_⟩, ?_⟩
      · rw [cntRs_take HR.out.2.2.1, HR.out.2.2.2.1 (by omega), HB2.out.2.1 (by omega)]
      · have h := HR.out.2.1
        show rs.length - (k + 1) < rs.length - k
        omega
    · have m1 : ¬ (k : Int) < (rs.length : Int) := by omega
      have hkl : k = rs.length := by omega
      subst hkl
      rw [List.take_length] at hcn
      have HB := Lib.hid (And.intro hb hcn)
      clear hb hlt hk hcn hn0
      by_cases hq : n ≤ 200
      · have hq1 : ¬ (200 : Int) < (n : Int) := by omega
        go_wp2_with fail
        go_ret
        exact ⟨⟨_, rfl, fun _ => by have := HB.out.2 hq; unfold cntRs at this; omega⟩, HB.out.1⟩
      · have hq1 : (200 : Int) < (n : Int) := by omega
        go_wp2_with fail
        go_ret
        exact ⟨⟨_, rfl, fun h => by simp at h⟩, HB.out.1⟩
end Go.Proofs.YtjngghihciimjaaGreat
namespace Go.Proofs.YtjngghihciimjaaGreat
set_option maxRecDepth 100000
open Go.ChangeShapes Go.WideShapes Go.ChangeAt Go.RowKit Go.Deep

theorem list_of {α : Type} (z : α) (P : Nat → α → Prop) : ∀ n, (∀ j, j < n → ∃ b, P j b) → ∃ l : List α, l.length = n ∧ ∀ j, j < n → P j (l.getD j z)
  | 0, _ => ⟨[], rfl, fun j hj => absurd hj (by omega)⟩
  | n + 1, h => by
    obtain ⟨l, hl, hp⟩ := list_of z P n (fun j hj => h j (by omega))
    obtain ⟨b, hb⟩ := h n (by omega)
    refine ⟨l ++ [b], by simp [hl], fun j hj => ?_⟩
    by_cases hjn : j < n
    · have := hp j hjn
      rw [List.getD_eq_getElem?_getD, List.getElem?_append_left (by omega), ← List.getD_eq_getElem?_getD]
      exact this
    · obtain rfl : j = n := by omega
      rw [List.getD_eq_getElem?_getD, List.getElem?_append_right (by omega), hl]
      simpa using hb
theorem byte_of {z : Int} (h : (Lit.int .u8 z).wf = true) : ∃ b : UInt8, z = (b.toNat : Int) := by
  have hmin : IntKind.u8.min = 0 := rfl
  have hmax : IntKind.u8.max = 255 := rfl
  simp only [Lit.wf, Bool.and_eq_true, decide_eq_true_eq] at h
  refine ⟨UInt8.ofNat z.toNat, ?_⟩
  have : (UInt8.ofNat z.toNat).toNat = z.toNat := by simp; omega
  rw [this]
  omega
theorem int_of {a : Int} (h : (Lit.int .i64 a).wf = true) : -9223372036854775808 ≤ a ∧ a < 9223372036854775808 := by
  have hmin : IntKind.i64.min = -9223372036854775808 := rfl
  have hmax : IntKind.i64.max = 9223372036854775807 := rfl
  simp only [Lit.wf, Bool.and_eq_true, decide_eq_true_eq] at h
  omega
theorem args_stay {H : Type} {enc : TypeId × Value → H} {W W' : World} {t : TypeId} {v : Value} {d : DataW H} {ps : List MemPlace} (hr : Tryz.prog.readableRec t = true) (hrow : t < Tryz.prog.types.size)
    (h : DataW.Trod enc Tryz.prog W 0 (fun _ => true) true t v d ps) (hb : Below W.heap.size W W') (hlt : ∀ x ∈ ps, x.block < W.heap.size) : DataW.Trod enc Tryz.prog W' 0 (fun b => decide (b < W.heap.size)) true t v d ps :=
  Below.trod (by kernel_rfl) hr hrow h hb hlt
theorem dc26 : Tryz.prog.cellsOf 26 = 32 := by kernel_rfl
theorem dc5 : Tryz.prog.cellsOf 5 = 1 := by kernel_rfl
theorem dc54 : Tryz.prog.cellsOf 38 = 34 := by kernel_rfl
theorem dc24 : Tryz.prog.cellsOf 24 = 2 := by kernel_rfl
theorem dc9 : Tryz.prog.cellsOf 9 = 1 := by kernel_rfl
theorem dc2 : Tryz.prog.cellsOf 2 = 1 := by kernel_rfl
theorem dc22 : Tryz.prog.cellsOf 22 = 1 := by kernel_rfl
theorem txt_of (s : ByteArray) : s = txt s.data.toList := by
  show s = ⟨s.data.toList.toArray⟩
  rw [Array.toArray_toList]
section
variable {H : Type} {enc : TypeId × Value → H} {W : World}
theorem hash_in {fuel : Nat} {cs : List Value} {x : DataW H × List MemPlace} (hf : DataW.trod enc Tryz.prog W 0 (fun _ => true) true fuel 26 cs = some x) :
    ∃ m : List UInt8, m.length = 32 ∧ cs = (B8 m).toList := by
  obtain ⟨ys, k, _, _, hlen, hyl, hy⟩ := DataW.trod_array Tryz.underlying26 hf
  rw [dc26] at hlen
  have hcell : ∀ j, j < 32 → ∃ b : UInt8, cs[j]? = some (.int .u8 b.toNat) := by
    intro j hj
    have h1 := hy j hj
    rw [dc5, Nat.mul_one] at h1
    have hone : (cs.drop j).take 1 = [cs[j]'(by omega)] := by
      rw [List.drop_eq_getElem_cons (by omega)]; rfl
    rw [hone, List.getElem?_eq_getElem (by omega)] at h1
    obtain ⟨z, hz, _, hwf⟩ := DataW.trod_int Tryz.underlying5 h1
    obtain ⟨b, hb⟩ := byte_of hwf
    refine ⟨b, ?_⟩
    rw [← hb, List.getElem?_eq_getElem (by omega), (List.cons.inj hz).1]
  obtain ⟨m, hm, hms⟩ := list_of (0 : UInt8) (fun j x => cs[j]? = some (.int .u8 x.toNat)) 32 hcell
  refine ⟨m, hm, List.ext_getElem? fun j => ?_⟩
  by_cases hj : j < 32
  · rw [hms j hj, Array.getElem?_toList, B8_get m j (by omega)]
  · rw [List.getElem?_eq_none (by omega), List.getElem?_eq_none (by rw [Array.length_toList, B8_size]; omega)]
theorem cut34 (l : List Value) (h : l.length = 34) : l = (l.drop 0).take 32 ++ ((l.drop 32).take 1 ++ (l.drop 33).take 1) := by
  rw [List.drop_zero]
  have h1 : (l.drop 33).take 1 = l.drop 33 := List.take_of_length_le (by rw [List.length_drop]; omega)
  have h2 : l.drop 33 = (l.drop 32).drop 1 := by rw [List.drop_drop]
  rw [h1, h2, List.take_append_drop, List.take_append_drop]
/-- An asset as it comes in. -/
theorem asset_in {fuel : Nat} {cs : List Value} {x : DataW H × List MemPlace} (hf : DataW.trod enc Tryz.prog W 0 (fun _ => true) true fuel 38 cs = some x) :
    ∃ a : As, cs = (asC a).toList ∧ AsOk a := by
  obtain ⟨ys, n, _, hx, hlen, hyl, hg⟩ := DataW.trod_struct Tryz.underlying38 hf
  rw [dc54] at hlen
  have hyl3 : ys.length = 3 := hyl
  have at_ := fun (j : Nat) (f : Field) (hj : j < 3) hfj => (hg j f hfj).trans (List.getElem?_eq_getElem (show j < ys.length by omega))
  obtain ⟨hs, hl, e0⟩ := hash_in (at_ 0 _ (by omega) rfl)
  obtain ⟨s, e1, _, hsl⟩ := DataW.trod_string Tryz.underlying9 (at_ 1 _ (by omega) rfl)
  obtain ⟨n2, e2, _, w2⟩ := DataW.trod_int Tryz.underlying2 (at_ 2 _ (by omega) rfl)
  obtain ⟨hlo, hhi⟩ := int_of w2
  have f0 : (cs.drop 0).take (Tryz.prog.cellsOf 26) = (B8 hs).toList := e0
  have f1 : (cs.drop 32).take (Tryz.prog.cellsOf 9) = [.string s] := e1
  have f2 : (cs.drop 33).take (Tryz.prog.cellsOf 2) = [.int .i64 n2] := e2
  rw [dc26] at f0
  rw [dc9] at f1
  rw [dc2] at f2
  refine ⟨⟨(hs, s.data.toList), n2⟩, ?_, hl, ?_, hlo, hhi⟩
  · rw [cut34 cs hlen, f0, f1, f2]
    show _ = (B8 hs ++ (#[Value.string (txt s.data.toList), Value.int .i64 n2] : Array Value)).toList
    rw [← txt_of s]
    simp
  · show s.data.toList.length ≤ maxLen
    have : s.data.toList.length = s.size := by simp
    omega
/-- Assets in a row as they come in. -/
theorem assets_in {fuel : Nat} {cs : List Value} {x : DataW H × List MemPlace} (hf : DataW.trod enc Tryz.prog W 0 (fun _ => true) true fuel 22 cs = some x) :
    ∃ (pa : Option Addr) (l : List As) (c : Nat), cs = [.slice pa l.length c] ∧ Row W pa l := by
  rcases open_slice Tryz.underlying22 hf with ⟨hcs, _⟩ | ⟨a, len, cap, m, n, D, Pl, hcs, hle, hl, hm, hmm, hx, hi⟩
  · exact ⟨none, [], 0, hcs, row_nil W⟩
  · simp only [if_true] at hmm
    subst hmm
    have each : ∀ i, i < len → ∃ q : As, AsOk q ∧ ∀ j v, (asC q)[j]? = some v → W.cell? (a.add (i * 34 + j)) = some v := by
      intro i hil
      obtain ⟨cs', hc, ht⟩ := hi i (by omega)
      rw [dc54] at hc
      obtain ⟨_, hcl, hat⟩ := World.cells?_some hc
      obtain ⟨q, rfl, hq⟩ := asset_in ht
      refine ⟨q, hq, fun j v hj => ?_⟩
      have hj34 : j < 34 := by
        have := (Array.getElem?_eq_some_iff.1 hj).1
        rwa [asC_size q hq.1] at this
      rw [← Go.Deep.add_add, hat j hj34, Array.getElem?_toList, hj]
    obtain ⟨xs, hpl, hps⟩ := list_of (⟨([], []), 0⟩ : As) (fun i q => AsOk q ∧ ∀ j v, (asC q)[j]? = some v → W.cell? (a.add (i * 34 + j)) = some v) len each
    subst hpl
    have hget : ∀ i q, xs[i]? = some q → AsOk q ∧ ∀ j v, (asC q)[j]? = some v → W.cell? (a.add (i * 34 + j)) = some v := fun i q hq => by
      have h1 := hps i (List.getElem?_eq_some_iff.1 hq).1
      rw [List.getD_eq_getElem?_getD, hq] at h1
      exact h1
    refine ⟨some a, xs, m, hcs, by omega, fun q hq => ?_, fun hpos => ?_⟩
    · obtain ⟨i, hi2⟩ := List.getElem?_of_mem hq
      exact (hget i q hi2).1
    · obtain ⟨b, off, spot⟩ := a
      obtain ⟨hok0, h00⟩ := hget 0 _ (List.getElem?_eq_getElem hpos)
      have h0 := h00 0 _ (asC_get _ hok0.1 0 (by decide))
      have hspot : spot = none := by simpa [Addr.add] using World.cell?_spot h0
      subst hspot
      refine ⟨b, off, rfl, block_lt_of_cell h0, fun i q hi2 j v hj => ?_⟩
      rw [Array.getElem?_toList] at hj
      have h2 := (hget i q hi2).2 j v hj
      rw [Addr.add_lit] at h2
      rw [show off + i * 34 + j = off + (i * 34 + j) by omega]
      exact h2
theorem cut2 {l : List Value} (h : l.length = 2) : l = (l.drop 0).take 1 ++ (l.drop 1).take 1 := by
  match l, h with
  | [a, b], _ => rfl
/-- A bundle as it comes in. -/
theorem open_value {b0 : Nat} {v : Value} {d : DataW H} {p : List MemPlace} (hv : Value.okWide Tryz.prog W .any b0 24 v) (h : DataW.Trod enc Tryz.prog W 0 (fun _ => true) true 24 v d p) :
    ∃ x : Va, v = .agg #[.int .i64 x.coin, .slice x.pa x.l.length x.c] ∧ VaOk W x := by
  simp only [Value.okWide, Tryz.underlying24] at hv
  obtain ⟨cs, rfl, hsz, -⟩ := hv
  rw [dc24] at hsz
  obtain ⟨fuel, hf⟩ := h
  obtain ⟨ys, m, _, hx, hlen, hyl, hg⟩ := DataW.trod_struct Tryz.underlying24 hf
  have hyl2 : ys.length = 2 := hyl
  have at_ := fun (j : Nat) (f : Field) (hj : j < 2) hfj => (hg j f hfj).trans (List.getElem?_eq_getElem (show j < ys.length by omega))
  obtain ⟨n0, e0, _, w0⟩ := DataW.trod_int Tryz.underlying2 (at_ 0 _ (by omega) rfl)
  obtain ⟨pa, l, c, e1, hr⟩ := assets_in (at_ 1 _ (by omega) rfl)
  obtain ⟨hlo, hhi⟩ := int_of w0
  have f0 : (cs.toList.drop 0).take (Tryz.prog.cellsOf 2) = [.int .i64 n0] := e0
  have f1 : (cs.toList.drop 1).take (Tryz.prog.cellsOf 22) = [.slice pa l.length c] := e1
  rw [dc2] at f0
  rw [dc22] at f1
  refine ⟨⟨n0, pa, l, c⟩, ?_, hlo, hhi, hr⟩
  have h2 := cut2 (l := cs.toList) (by simpa using hsz)
  rw [f0, f1] at h2
  exact congrArg Value.agg (Array.toList_inj.1 h2)
theorem open_hash {b0 : Nat} {v : Value} {d : DataW H} {p : List MemPlace} (hv : Value.okWide Tryz.prog W .any b0 26 v) (h : DataW.Trod enc Tryz.prog W 0 (fun _ => true) true 26 v d p) :
    ∃ m : List UInt8, v = .agg (B8 m) ∧ m.length = 32 := by
  simp only [Value.okWide, Tryz.underlying26] at hv
  obtain ⟨cs, rfl, -⟩ := hv
  obtain ⟨fuel, hf⟩ := h
  obtain ⟨m, hm, e⟩ := hash_in hf
  have e2 : cs.toList = (B8 m).toList := e
  exact ⟨m, congrArg Value.agg (Array.toList_inj.1 e2), hm⟩
theorem open_text {b0 : Nat} {v : Value} {d : DataW H} {p : List MemPlace} (hv : Value.okWide Tryz.prog W .any b0 9 v) (h : DataW.Trod enc Tryz.prog W 0 (fun _ => true) true 9 v d p) : ∃ t : List UInt8, v = .string (txt t) ∧ t.length ≤ maxLen := by
  obtain ⟨s, rfl⟩ := okWide_string Tryz.underlying9 hv
  obtain ⟨fuel, hf⟩ := h
  obtain ⟨s', e, _, hsl⟩ := DataW.trod_string Tryz.underlying9 hf
  have e2 : s = s' := by simpa [Value.cells] using e
  subst e2
  refine ⟨s.data.toList, by rw [← txt_of s], ?_⟩
  have : s.data.toList.length = s.size := by simp
  omega
end
end Go.Proofs.YtjngghihciimjaaGreat
namespace Go.Proofs.YtjngghihciimjaaGreat
set_option maxRecDepth 100000
open Go.RowKit Go.Sort Go.Maps Go.ChangeShapes Go.WideShapes Go.ChangeAt Go.Deep

section
variable {H : Type} {enc : TypeId × Value → H} {W : World}
/-- A row that is nil has no room. -/
theorem assetsC_in {fuel : Nat} {cs : List Value} {x : DataW H × List MemPlace} (hf : DataW.trod enc Tryz.prog W 0 (fun _ => true) true fuel 22 cs = some x) :
    ∃ (pa : Option Addr) (l : List As) (c : Nat), cs = [.slice pa l.length c] ∧ Row W pa l ∧ (pa = none → c = 0) := by
  obtain ⟨pa, l, c, e, hr⟩ := assets_in hf
  refine ⟨pa, l, c, e, hr, fun hn => ?_⟩
  rcases open_slice Tryz.underlying22 hf with ⟨hcs, _⟩ | ⟨a, len, cap, m, n, D, Pl, hcs, _⟩
  · rw [e] at hcs
    simp only [List.cons.injEq, Value.slice.injEq, and_true] at hcs
    exact hcs.2.2
  · rw [e, hn] at hcs
    simp at hcs
/-- What is asked of a bundle that is copied. -/
def Room (v : Va) : Prop := v.pa = none → v.c = 0
theorem value_in {fuel : Nat} {cs : List Value} {x : DataW H × List MemPlace} (hf : DataW.trod enc Tryz.prog W 0 (fun _ => true) true fuel 24 cs = some x) :
    ∃ v : Va, cs = (vaC v).toList ∧ VaOk W v ∧ Room v := by
  obtain ⟨ys, m, _, hx, hlen, hyl, hg⟩ := DataW.trod_struct Tryz.underlying24 hf
  rw [dc24] at hlen
  have hyl2 : ys.length = 2 := hyl
  have at_ := fun (j : Nat) (f : Field) (hj : j < 2) hfj => (hg j f hfj).trans (List.getElem?_eq_getElem (show j < ys.length by omega))
  obtain ⟨n0, e0, _, w0⟩ := DataW.trod_int Tryz.underlying2 (at_ 0 _ (by omega) rfl)
  obtain ⟨pa, l, c, e1, hr, hc⟩ := assetsC_in (at_ 1 _ (by omega) rfl)
  obtain ⟨hlo, hhi⟩ := int_of w0
  have f0 : (cs.drop 0).take (Tryz.prog.cellsOf 2) = [.int .i64 n0] := e0
  have f1 : (cs.drop 1).take (Tryz.prog.cellsOf 22) = [.slice pa l.length c] := e1
  rw [dc2] at f0
  rw [dc22] at f1
  refine ⟨⟨n0, pa, l, c⟩, ?_, ⟨hlo, hhi, hr⟩, hc⟩
  have h2 := cut2 (l := cs) hlen
  rw [f0, f1] at h2
  exact h2
theorem values_in {fuel : Nat} {cs : List Value} {x : DataW H × List MemPlace} (hf : DataW.trod enc Tryz.prog W 0 (fun _ => true) true fuel 28 cs = some x) :
    ∃ (pa : Option Addr) (vs : List Va) (c : Nat), cs = [.slice pa vs.length c] ∧ RowV W pa vs ∧ (∀ v, v ∈ vs → Room v) ∧ (pa = none → c = 0) := by
  rcases open_slice Tryz.underlying28 hf with ⟨hcs, _⟩ | ⟨a, len, cap, m, n, D, Pl, hcs, hle, hl, hm, hmm, hx, hi⟩
  · exact ⟨none, [], 0, hcs, ⟨Nat.zero_le _, fun h => absurd h (by simp)⟩, fun v hv => by simp at hv, fun _ => rfl⟩
  · simp only [if_true] at hmm
    subst hmm
    have each : ∀ i, i < len → ∃ q : Va, (VaOk W q ∧ Room q) ∧ ∀ j v, (vaC q)[j]? = some v → W.cell? (a.add (i * 2 + j)) = some v := by
      intro i hil
      obtain ⟨cs', hc, ht⟩ := hi i (by omega)
      rw [dc24] at hc
      obtain ⟨_, hcl, hat⟩ := World.cells?_some hc
      obtain ⟨q, rfl, hq, hrm⟩ := value_in ht
      refine ⟨q, ⟨hq, hrm⟩, fun j v hj => ?_⟩
      have hj2 : j < 2 := by
        have := (Array.getElem?_eq_some_iff.1 hj).1
        rwa [vaC_size q] at this
      rw [← Go.Deep.add_add, hat j hj2, Array.getElem?_toList, hj]
    obtain ⟨xs, hpl, hps⟩ := list_of (⟨0, none, [], 0⟩ : Va) (fun i q => (VaOk W q ∧ Room q) ∧ ∀ j v, (vaC q)[j]? = some v → W.cell? (a.add (i * 2 + j)) = some v) len each
    subst hpl
    have hget : ∀ i q, xs[i]? = some q → (VaOk W q ∧ Room q) ∧ ∀ j v, (vaC q)[j]? = some v → W.cell? (a.add (i * 2 + j)) = some v := fun i q hq => by
      have h1 := hps i (List.getElem?_eq_some_iff.1 hq).1
      rw [List.getD_eq_getElem?_getD, hq] at h1
      exact h1
    refine ⟨some a, xs, m, hcs, ⟨by omega, fun hpos => ?_⟩, fun q hq => ?_, fun e => by cases e⟩
    · obtain ⟨b, off, spot⟩ := a
      obtain ⟨hok0, h00⟩ := hget 0 _ (List.getElem?_eq_getElem hpos)
      have h0 := h00 0 _ (show (vaC xs[0])[0]? = some (.int .i64 xs[0].coin) from rfl)
      have hspot : spot = none := by simpa [Addr.add] using World.cell?_spot h0
      subst hspot
      refine ⟨b, off, rfl, block_lt_of_cell h0, fun i q hi2 => ⟨fun j v hj => ?_, (hget i q hi2).1.1⟩⟩
      rw [Array.getElem?_toList] at hj
      have h2 := (hget i q hi2).2 j v hj
      rw [Addr.add_lit] at h2
      rw [show off + i * 2 + j = off + (i * 2 + j) by omega]
      exact h2
    · obtain ⟨i, hi2⟩ := List.getElem?_of_mem hq
      exact (hget i q hi2).1.2
/-- A bundle as it comes in. -/
theorem open_valueC {b0 : Nat} {v : Value} {d : DataW H} {p : List MemPlace} (hv : Value.okWide Tryz.prog W .any b0 24 v) (h : DataW.Trod enc Tryz.prog W 0 (fun _ => true) true 24 v d p) :
    ∃ x : Va, v = .agg #[.int .i64 x.coin, .slice x.pa x.l.length x.c] ∧ VaOk W x ∧ Room x := by
  simp only [Value.okWide, Tryz.underlying24] at hv
  obtain ⟨cs, rfl, -⟩ := hv
  obtain ⟨fuel, hf⟩ := h
  obtain ⟨x, e, hx, hc⟩ := value_in hf
  have e2 : cs.toList = (vaC x).toList := e
  exact ⟨x, congrArg Value.agg (Array.toList_inj.1 e2), hx, hc⟩
/-- A row of bundles as it comes in. -/
theorem open_values {b0 : Nat} {v : Value} {d : DataW H} {p : List MemPlace} (hv : Value.okWide Tryz.prog W .any b0 28 v) (h : DataW.Trod enc Tryz.prog W 0 (fun _ => true) true 28 v d p) :
    ∃ (pa : Option Addr) (vs : List Va) (c : Nat), v = .slice pa vs.length c ∧ RowV W pa vs ∧ (∀ v, v ∈ vs → Room v) ∧ (pa = none → c = 0) := by
  obtain ⟨a0, len, cap, rfl⟩ := okWide_slice Tryz.underlying28 hv
  obtain ⟨fuel, hf⟩ := h
  obtain ⟨pa, vs, c, e, hr⟩ := values_in hf
  exact ⟨pa, vs, c, by simpa [Value.cells] using e, hr⟩
/-- A row of assets as it comes in. -/
theorem open_assets {b0 : Nat} {v : Value} {d : DataW H} {p : List MemPlace} (hv : Value.okWide Tryz.prog W .any b0 22 v) (h : DataW.Trod enc Tryz.prog W 0 (fun _ => true) true 22 v d p) :
    ∃ (pa : Option Addr) (l : List As) (c : Nat), v = .slice pa l.length c ∧ Row W pa l ∧ (pa = none → c = 0) := by
  obtain ⟨a0, len, cap, rfl⟩ := okWide_slice Tryz.underlying22 hv
  obtain ⟨fuel, hf⟩ := h
  obtain ⟨pa, l, c, e, hr⟩ := assetsC_in hf
  exact ⟨pa, l, c, by simpa [Value.cells] using e, hr⟩
theorem open_num {b0 : Nat} {v : Value} {d : DataW H} {p : List MemPlace} (hv : Value.okWide Tryz.prog W .any b0 2 v) (h : DataW.Trod enc Tryz.prog W 0 (fun _ => true) true 2 v d p) : ∃ n : Int, v = .int .i64 n ∧ -9223372036854775808 ≤ n ∧ n < 9223372036854775808 := by
  obtain ⟨z, rfl⟩ := okWide_int Tryz.underlying2 hv
  obtain ⟨fuel, hf⟩ := h
  obtain ⟨n, e, _, w⟩ := DataW.trod_int Tryz.underlying2 hf
  obtain ⟨h1, h2⟩ := int_of w
  have e2 : z = n := by simpa [Value.cells] using e
  subst e2
  exact ⟨z, rfl, h1, h2⟩
end
end Go.Proofs.YtjngghihciimjaaGreat
