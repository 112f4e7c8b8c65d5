/-
  Are two rows of assets the same? Are two bundles?
-/
import Derived.Test.YtjngghihciimjaaVe
import Derived.Test.YtjngghihciimjaaVr
namespace Go.Proofs.Ytjngghihciimjaa
set_option maxRecDepth 100000
open Go.RowKit Go.Sort

theorem Row.at {w : World} {g off : Nat} {l : List As} {i : Nat} {a : As} (h : HasA w g off l) (ha : l[i]? = some a) : w.rangeAt g (off + i * 34) (asC a).toList := h i a ha
set_option maxHeartbeats 4000000 in
theorem same_any (w : World) (pa pb : Option Addr) (l m : List As) (c e : Nat) (hl : Row w pa l) (hm : Row w pb m) :
    Calls Try.prog 26 #[.slice pa l.length c, .slice pb m.length e] w fun e w' => e = .returned (.bool (decide (l = m))) ∧ Below w.heap.size w w' := by
  have hli : (l.length : Int) ≤ 9223372036854775807 := by have := hl.1; unfold maxLen at this; omega
  have hmi : (m.length : Int) ≤ 9223372036854775807 := by have := hm.1; unfold maxLen at this; omega
  have HS := Lib.hid (And.intro hl hm)
  clear hl hm
  by_cases hlen : l.length = m.length
  · rw [hlen]
    have HL := Lib.hid hlen
    clear hlen
    go_enter Try.func26, Try.ntmps26
    go_wp2_with fail
    go_loopw [5] (fun i W => ∃ k : Nat, k ≤ m.length ∧ i = .int .i64 k ∧ Below w.heap.size w W ∧ ∀ i, i < k → l[i]? = m[i]?) (fun i _ => m.length - (intOf i).toNat)
    case atStart => exact ⟨0, Nat.zero_le _, rfl, Below.refl _ _, fun i hi => absurd hi (by omega)⟩
    case round =>
      obtain ⟨k, hk, rfl, hb, hall⟩ := hrel
      have hlen := HL.out
      by_cases hlt : k < m.length
      · have m1 : (k : Int) < (m.length : Int) := by omega
        have m0 : (0 : Int) ≤ (k : Int) := by omega
        obtain ⟨g, off, rfl, hg, hh⟩ := HS.out.1.2.2 (by omega)
        obtain ⟨g', off', rfl, hg', hh'⟩ := HS.out.2.2.2 (by omega)
        obtain ⟨a, ha⟩ : ∃ a, a = l[k] := ⟨_, rfl⟩
        obtain ⟨b, hb'⟩ : ∃ b, b = m[k] := ⟨_, rfl⟩
        have hka : l[k]? = some a := by rw [ha, List.getElem?_eq_getElem (by omega)]
        have hkb : m[k]? = some b := by rw [hb', List.getElem?_eq_getElem hlt]
        have oka := HS.out.1.2.1 a (List.mem_of_getElem? hka)
        have okb := HS.out.2.2.1 b (List.mem_of_getElem? hkb)
        obtain ⟨va, hva⟩ : ∃ v, v = asC a := ⟨_, rfl⟩
        obtain ⟨vb, hvb⟩ : ∃ v, v = asC b := ⟨_, rfl⟩
        have hvs : va.size = 34 := by rw [hva]; exact asC_size a oka.1
        have hvt : vb.size = 34 := by rw [hvb]; exact asC_size b okb.1
        have heq : ∀ W, (Op.equalIn 10000 54 (.agg va) (.agg vb)).run Try.prog W = .ok (decide (a = b)) W := fun W => by rw [hva, hvb]; exact eq_as W a b oka okb
        have HR1 : Hid (∀ W, Below w.heap.size w W → W.rangeAt g (off + k * 34) va.toList ∧ W.rangeAt g' (off' + k * 34) vb.toList) := Lib.hid fun W hW => by
          rw [hva, hvb]
          exact ⟨(hh.below hW hg) k a hka, (hh'.below hW hg') k b hkb⟩
        have HR := Lib.hid (And.intro hb (And.intro hall (And.intro hlt (And.intro hka (And.intro hkb (And.intro hvs hvt))))))
        have HI := Lib.hid (And.intro (show (Try.prog.info? 54).map (·.size) = some va.size by rw [hvs]; exact info_asset) (show (Try.prog.info? 54).map (·.size) = some vb.size by rw [hvt]; exact info_asset))
        clear hlen hb hall hlt hk ha hb' hka hkb oka okb hva hvb hvs hvt hh hh' hg hg'
        go_upto_region 6 with fail
        refine wp_region_noPanic (wp_region_held (S := fun V => V.rangeAt g (off + k * 34) va.toList ∧ V.rangeAt g' (off' + k * 34) vb.toList) (by kernel_rfl) ?_)
        change wpAnyH _ _ _ _ _ 9 _ _ (World.drew wr)
        have hcur := HR1.out _ HR.out.1.drew
        have hbd : Below w.heap.size w wr.drew := HR.out.1.drew
        have HBD := Lib.hid hbd
        clear hbd
        by_cases hab : a = b
        · have hd : decide (a = b) = true := by simp [hab]
          have HAB := Lib.hid hab
          clear hab
          refine held_take (i := 0) (v := (.slice (some ⟨g, off, none⟩) m.length c)) rfl 17 rfl (by kernel_rfl) (by kernel_rfl) (by kernel_rfl) (fun _ _ _ h => h) (by rfl) (by intro w' hS'; unfold execOp; simp [go_sem]) hcur _ rfl ?_
          simp only [Act.put, List.setIfInBounds_toArray, List.set_cons_zero, List.set_cons_succ]
          refine held_take (i := 1) (v := (.int .i64 k)) rfl 18 rfl (by kernel_rfl) (by kernel_rfl) (by kernel_rfl) (fun _ _ _ h => h) (by rfl) (by intro w' hS'; unfold execOp; simp [go_sem]) hcur _ rfl ?_
          simp only [Act.put, List.setIfInBounds_toArray, List.set_cons_zero, List.set_cons_succ]
          refine held_take (i := 2) (v := (.pointer (some ⟨g, off + k * 34, none⟩))) rfl 19 rfl (by kernel_rfl) (by kernel_rfl) (by kernel_rfl) (fun _ _ _ h => h) (by rfl) (by intro w' hS'; unfold execOp; simp [go_sem, m0, m1]) hcur _ rfl ?_
          simp only [Act.put, List.setIfInBounds_toArray, List.set_cons_zero, List.set_cons_succ]
          refine held_take (i := 3) (v := (.agg va)) rfl 20 rfl (by kernel_rfl) (by kernel_rfl) (by kernel_rfl) (fun _ _ _ h => h) (by rfl) (by intro w' hS'; exact exec_loadM 54 _ rfl _ _ rfl va hS'.1 Try.underlying54 rfl HI.out.1) hcur _ rfl ?_
          simp only [Act.put, List.setIfInBounds_toArray, List.set_cons_zero, List.set_cons_succ]
          refine held_take (i := 4) (v := (.slice (some ⟨g', off', none⟩) m.length e)) rfl 21 rfl (by kernel_rfl) (by kernel_rfl) (by kernel_rfl) (fun _ _ _ h => h) (by rfl) (by intro w' hS'; unfold execOp; simp [go_sem]) hcur _ rfl ?_
          simp only [Act.put, List.setIfInBounds_toArray, List.set_cons_zero, List.set_cons_succ]
          refine held_take (i := 5) (v := (.int .i64 k)) rfl 22 rfl (by kernel_rfl) (by kernel_rfl) (by kernel_rfl) (fun _ _ _ h => h) (by rfl) (by intro w' hS'; unfold execOp; simp [go_sem]) hcur _ rfl ?_
          simp only [Act.put, List.setIfInBounds_toArray, List.set_cons_zero, List.set_cons_succ]
          refine held_take (i := 6) (v := (.pointer (some ⟨g', off' + k * 34, none⟩))) rfl 23 rfl (by kernel_rfl) (by kernel_rfl) (by kernel_rfl) (fun _ _ _ h => h) (by rfl) (by intro w' hS'; unfold execOp; simp [go_sem, m0, m1]) hcur _ rfl ?_
          simp only [Act.put, List.setIfInBounds_toArray, List.set_cons_zero, List.set_cons_succ]
          refine held_take (i := 7) (v := (.agg vb)) rfl 24 rfl (by kernel_rfl) (by kernel_rfl) (by kernel_rfl) (fun _ _ _ h => h) (by rfl) (by intro w' hS'; exact exec_loadM 54 _ rfl _ _ rfl vb hS'.2 Try.underlying54 rfl HI.out.2) hcur _ rfl ?_
          simp only [Act.put, List.setIfInBounds_toArray, List.set_cons_zero, List.set_cons_succ]
          refine held_take (i := 8) (v := (.bool false)) rfl 25 rfl (by kernel_rfl) (by kernel_rfl) (by kernel_rfl) (fun _ _ _ h => h) (by rfl) (by intro w' hS'; unfold execOp; simp [go_sem, heq, hd]) hcur _ rfl ?_
          simp only [Act.put, List.setIfInBounds_toArray, List.set_cons_zero, List.set_cons_succ]
          refine wpAnyH_done (by kernel_rfl) ?_ _
          unfold NoPanic
          dsimp only
          clear hcur heq hd
          go_wp2_with fail
          have e1 : (k : Int) + 1 = ((k + 1 : Nat) : Int) := by omega
          rw [e1]
          refine ⟨⟨k + 1, HR.out.2.2.1, rfl, HBD.out, fun i hi => ?_⟩, ?_⟩
          · by_cases e : i = k
            · rw [e, HR.out.2.2.2.1, HR.out.2.2.2.2.1, HAB.out]
            · exact HR.out.2.1 i (by omega)
          · have h := HR.out.2.2.1
            show m.length - (k + 1) < m.length - k
            omega
        · have hd : decide (a = b) = false := by simp [hab]
          have HAB := Lib.hid (show l ≠ m from fun e => hab (by
            have h1 := HR.out.2.2.2.1
            rw [e, HR.out.2.2.2.2.1] at h1
            exact (Option.some.inj h1).symm))
          clear hab
          refine held_take (i := 0) (v := (.slice (some ⟨g, off, none⟩) m.length c)) rfl 17 rfl (by kernel_rfl) (by kernel_rfl) (by kernel_rfl) (fun _ _ _ h => h) (by rfl) (by intro w' hS'; unfold execOp; simp [go_sem]) hcur _ rfl ?_
          simp only [Act.put, List.setIfInBounds_toArray, List.set_cons_zero, List.set_cons_succ]
          refine held_take (i := 1) (v := (.int .i64 k)) rfl 18 rfl (by kernel_rfl) (by kernel_rfl) (by kernel_rfl) (fun _ _ _ h => h) (by rfl) (by intro w' hS'; unfold execOp; simp [go_sem]) hcur _ rfl ?_
          simp only [Act.put, List.setIfInBounds_toArray, List.set_cons_zero, List.set_cons_succ]
          refine held_take (i := 2) (v := (.pointer (some ⟨g, off + k * 34, none⟩))) rfl 19 rfl (by kernel_rfl) (by kernel_rfl) (by kernel_rfl) (fun _ _ _ h => h) (by rfl) (by intro w' hS'; unfold execOp; simp [go_sem, m0, m1]) hcur _ rfl ?_
          simp only [Act.put, List.setIfInBounds_toArray, List.set_cons_zero, List.set_cons_succ]
          refine held_take (i := 3) (v := (.agg va)) rfl 20 rfl (by kernel_rfl) (by kernel_rfl) (by kernel_rfl) (fun _ _ _ h => h) (by rfl) (by intro w' hS'; exact exec_loadM 54 _ rfl _ _ rfl va hS'.1 Try.underlying54 rfl HI.out.1) hcur _ rfl ?_
          simp only [Act.put, List.setIfInBounds_toArray, List.set_cons_zero, List.set_cons_succ]
          refine held_take (i := 4) (v := (.slice (some ⟨g', off', none⟩) m.length e)) rfl 21 rfl (by kernel_rfl) (by kernel_rfl) (by kernel_rfl) (fun _ _ _ h => h) (by rfl) (by intro w' hS'; unfold execOp; simp [go_sem]) hcur _ rfl ?_
          simp only [Act.put, List.setIfInBounds_toArray, List.set_cons_zero, List.set_cons_succ]
          refine held_take (i := 5) (v := (.int .i64 k)) rfl 22 rfl (by kernel_rfl) (by kernel_rfl) (by kernel_rfl) (fun _ _ _ h => h) (by rfl) (by intro w' hS'; unfold execOp; simp [go_sem]) hcur _ rfl ?_
          simp only [Act.put, List.setIfInBounds_toArray, List.set_cons_zero, List.set_cons_succ]
          refine held_take (i := 6) (v := (.pointer (some ⟨g', off' + k * 34, none⟩))) rfl 23 rfl (by kernel_rfl) (by kernel_rfl) (by kernel_rfl) (fun _ _ _ h => h) (by rfl) (by intro w' hS'; unfold execOp; simp [go_sem, m0, m1]) hcur _ rfl ?_
          simp only [Act.put, List.setIfInBounds_toArray, List.set_cons_zero, List.set_cons_succ]
          refine held_take (i := 7) (v := (.agg vb)) rfl 24 rfl (by kernel_rfl) (by kernel_rfl) (by kernel_rfl) (fun _ _ _ h => h) (by rfl) (by intro w' hS'; exact exec_loadM 54 _ rfl _ _ rfl vb hS'.2 Try.underlying54 rfl HI.out.2) hcur _ rfl ?_
          simp only [Act.put, List.setIfInBounds_toArray, List.set_cons_zero, List.set_cons_succ]
          refine held_take (i := 8) (v := (.bool true)) rfl 25 rfl (by kernel_rfl) (by kernel_rfl) (by kernel_rfl) (fun _ _ _ h => h) (by rfl) (by intro w' hS'; unfold execOp; simp [go_sem, heq, hd]) hcur _ rfl ?_
          simp only [Act.put, List.setIfInBounds_toArray, List.set_cons_zero, List.set_cons_succ]
          refine wpAnyH_done (by kernel_rfl) ?_ _
          unfold NoPanic
          dsimp only
          clear hcur heq hd
          go_wp2_with fail
          go_ret
          refine ⟨?_, HBD.out⟩
          rw [decide_eq_false HAB.out]
          rfl
      · have e1 : k = m.length := by omega
        have HF := Lib.hid (And.intro hb (show l = m from List.ext_getElem? fun i => by
          by_cases hi : i < k
          · exact hall i hi
          · rw [List.getElem?_eq_none (by omega), List.getElem?_eq_none (by omega)]))
        have m1 : ¬ (k : Int) < (m.length : Int) := by omega
        clear hb hall e1 hk hlt hlen
        go_wp2_with fail
        go_ret
        refine ⟨?_, HF.out.1⟩
        rw [decide_eq_true HF.out.2]
        rfl
  · have hne : ¬ (l.length : Int) = (m.length : Int) := by omega
    have HN := Lib.hid (show l ≠ m from fun e => hlen (by rw [e]))
    clear hlen
    go_enter Try.func26, Try.ntmps26
    go_wp2_with fail
    go_ret
    refine ⟨?_, Below.refl _ _⟩
    rw [decide_eq_false HN.out]
    rfl
def sameB (x y : Int) (l m : List As) : Bool := decide (x = y) && decide (l = m)
set_option maxHeartbeats 1000000 in
theorem sameV_any (w : World) (x y : Int) (pa pb : Option Addr) (l m : List As) (c e : Nat) (hl : Row w pa l) (hm : Row w pb m) :
    Calls Try.prog 8 #[.agg (vC x pa l.length c), .agg (vC y pb m.length e)] w fun e w' => e = .returned (.bool (sameB x y l m)) ∧ Below w.heap.size w w' := by
  have hli : (l.length : Int) ≤ 9223372036854775807 := by have := hl.1; unfold maxLen at this; omega
  have hmi : (m.length : Int) ≤ 9223372036854775807 := by have := hm.1; unfold maxLen at this; omega
  have hb1 : Below w.heap.size w ((w.alloc (.cells (vC x pa l.length c) 24)).alloc (.cells (vC y pb m.length e) 24)) := ((Below.refl _ _).alloc (Nat.le_refl _) _).alloc (by simp) _
  have hL1 : Lies ((w.alloc (.cells (vC x pa l.length c) 24)).alloc (.cells (vC y pb m.length e) 24)) w.heap.size (vC x pa l.length c) 24 := (Lies.new _ _ _).alloc _
  have hL2 : Lies ((w.alloc (.cells (vC x pa l.length c) 24)).alloc (.cells (vC y pb m.length e) 24)) (w.heap.size + 1) (vC y pb m.length e) 24 := by
    have := Lies.new (w.alloc (.cells (vC x pa l.length c) 24)) (vC y pb m.length e) 24
    simpa using this
  have hC := same_any _ pa pb l m c e (hl.below hb1 (Nat.le_refl _)) (hm.below hb1 (Nat.le_refl _))
  have H := Lib.hid (And.intro hC hb1)
  have c0 := hL1.cell 0 (v := .int .i64 x) rfl
  have c1 := hL1.cell 1 (v := .slice pa l.length c) rfl
  have d0 := hL2.cell 0 (v := .int .i64 y) rfl
  have d1 := hL2.cell 1 (v := .slice pb m.length e) rfl
  clear hl hm hC hb1 hL1 hL2
  unfold vC
  unfold vC at H c0 c1 d0 d1
  go_enter Try.func8, Try.ntmps8
  by_cases hxy : x = y
  · have HV := Lib.hid (show sameB x y l m = decide (l = m) by unfold sameB; simp [hxy])
    subst hxy
    go_wp2_with fail
    refine H.out.1.mono ?_
    rintro e w2 ⟨rfl, hb2⟩
    go_wp2_with fail
    go_ret
    refine ⟨?_, H.out.2.trans (hb2.mono H.out.2.size)⟩
    rw [HV.out]
    rfl
  · have HV := Lib.hid (show sameB x y l m = false by unfold sameB; simp [hxy])
    go_wp2_with fail
    go_ret
    refine ⟨?_, H.out.2⟩
    rw [HV.out]
    rfl
end Go.Proofs.Ytjngghihciimjaa
