/-
  The document's own rising, Right, Mints.
-/
import Derived.Test.YtjngghihciimjaaGreatJRf
import Derived.Test.YtjngghihciimjaaGreatJRo
namespace Go.Proofs.YtjngghihciimjaaGreat
set_option maxRecDepth 100000
open Go.RowKit Go.Sort Go.Maps
def anyAs : As → Bool := fun _ => true
def risB (l : List As) : Bool := wellB anyAs l && decide (l.length ≤ 30)
theorem asC_polR {U : World} {g off : Nat} {y : As} (h : y.nm.1.length = 32) (hr : U.rangeAt g off (asC y).toList) : U.rangeAt g off (B8 y.nm.1).toList := fun j v hv => hr j v (by
 rw [Array.getElem?_toList] at hv ⊢
 have hj : j < 32 := by
  have := (Array.getElem?_eq_some_iff.1 hv).1
  rw [B8_size, h] at this
  exact this
 rw [asC_get y h j hj, ← B8_get y.nm.1 j (by omega)]
 exact hv)
theorem asC_strR {U : World} {g off : Nat} {y : As} (h : y.nm.1.length = 32) (hr : U.rangeAt g off (asC y).toList) : U.cell? ⟨g, off + 32, none⟩ = some (.string (txt y.nm.2)) := hr 32 _ (by rw [Array.getElem?_toList]; exact asC_txt y h)
theorem asC_amtR {U : World} {g off : Nat} {y : As} (h : y.nm.1.length = 32) (hr : U.rangeAt g off (asC y).toList) : U.cell? ⟨g, off + 33, none⟩ = some (.int .i64 y.amt) := hr 33 _ (by rw [Array.getElem?_toList]; exact asC_amt y h)
theorem getD_of {l : List As} {k : Nat} {y : As} (h : l[k]? = some y) : l.getD k default = y := by
 rw [List.getD_eq_getElem?_getD, h]
 rfl
set_option maxHeartbeats 8000000 in
theorem rrising_any (w : World) (pa : Option Addr) (l : List As) (c : Nat) (h : Row w pa l) :
    Calls Tryz.prog 60 #[.slice pa l.length c] w fun e w' => e = .returned (.bool (risB l)) ∧ Below w.heap.size w w' := by
  have hli : (l.length : Int) ≤ 9223372036854775807 := by have := h.1; unfold maxLen at this; omega
  have H := Lib.hid h
  clear h
  go_enter Tryz.func60, Tryz.ntmps60
  go_wp2_with fail
  go_loopw [3] (fun i W => ∃ k : Nat, k ≤ l.length ∧ i = .int .i64 k ∧ (∀ i, i < k → okAt anyAs l i = true) ∧ Below w.heap.size w W) (fun i _ => l.length - (intOf i).toNat)
  case atStart => exact ⟨0, Nat.zero_le _, rfl, fun i hi => absurd hi (Nat.not_lt_zero _), Below.refl _ _⟩
  case round =>
    obtain ⟨k, hk, rfl, hall, hb⟩ := hrel
    by_cases hlt : k < l.length
    · have m1 : (k : Int) < (l.length : Int) := by omega
      have m0 : (0 : Int) ≤ (k : Int) := by omega
      obtain ⟨g, off, rfl, hg, hh⟩ := H.out.2.2 (by omega)
      obtain ⟨y, hy⟩ : ∃ y, y = l[k] := ⟨_, rfl⟩
      have hky : l[k]? = some y := by rw [hy, List.getElem?_eq_getElem hlt]
      have oky := H.out.2.1 y (List.mem_of_getElem? hky)
      have hgy := getD_of hky
      have hrY : ∀ U, Below w.heap.size w U → U.rangeAt g (off + k * 34) (asC y).toList := fun U hU => (hh.below hU hg) k y hky
      obtain ⟨tw, htw⟩ : ∃ v, v = txt y.nm.2 := ⟨_, rfl⟩
      have hts : tw.size = y.nm.2.length := by rw [htw]; exact txt_size _
      have hti : (tw.size : Int) ≤ 9223372036854775807 := by rw [hts]; have := oky.2.1; unfold maxLen at this; omega
      have hst : ∀ U, Below w.heap.size w U → U.cell? ⟨g, off + k * 34 + 32, none⟩ = some (.string tw) := fun U hU => by rw [htw]; exact asC_strR oky.1 (hrY U hU)
      by_cases h32 : (32 : Int) < (tw.size : Int)
      · have hno : okAt anyAs l k = false := by
          have h1 : ¬ y.nm.2.length ≤ 32 := by omega
          unfold okAt
          rw [hgy, decide_eq_false h1]
          rfl
        have hres : risB l = false := by unfold risB; rw [well_no hlt hno]; rfl
        have HR := Lib.hid (And.intro hb (And.intro hres hst))
        clear hb hres hst hall hk hlt hky oky hgy hrY htw hts hno hg hh hy
        go_upto_region 4 with fail
        refine wp_region_noPanic (wp_region_held (S := fun U => U.cell? ⟨g, off + k * 34 + 32, none⟩ = some (.string tw)) (by kernel_rfl) ?_)
        change wpAnyH _ _ _ _ _ 37 _ _ (World.drew wr)
        have hcd : Below wr.heap.size wr wr.drew := (Below.refl _ _).drew
        have hbd := HR.out.1.trans (hcd.mono HR.out.1.size)
        generalize World.drew wr = wd at hbd ⊢
        have hcur := HR.out.2.2 wd hbd
        clear hcd
        refine tk 0 (.slice (some ⟨g, off, none⟩) l.length c) 10 rfl rfl hcur ?_
        refine tk 1 (.int .i64 k) 11 rfl rfl hcur ?_
        refine tk 2 (.pointer (some ⟨g, off + k * 34, none⟩)) 12 rfl rfl hcur ?_ (by intro w' hS'; unfold execOp; simp [go_sem, m0, m1])
        refine tk 3 (.pointer (some ⟨g, off + k * 34 + 32, none⟩)) 13 rfl rfl hcur ?_
        refine tk 4 (.string tw) 14 rfl rfl hcur ?_ (by intro w' hS'; have q := hS'; unfold execOp; simp [go_sem, q])
        refine tk 5 (.int .i64 tw.size) 15 rfl rfl hcur ?_ (by intro w' hS'; unfold execOp; simp [go_sem, hti])
        refine tk 6 (.bool true) 16 rfl rfl hcur ?_ (by intro w' hS'; unfold execOp; simp [go_sem, h32])
        refine tk 7 (.bool true) 17 rfl rfl hcur ?_
        refine held_skip (i := 8) rfl 18 rfl (by kernel_rfl) (by kernel_rfl) (by kernel_rfl) (fun _ _ _ h => h) (by rfl) hcur _ rfl ?_
        simp only [Act.put, List.setIfInBounds_toArray, List.set_cons_zero, List.set_cons_succ]
        refine held_skip (i := 9) rfl 19 rfl (by kernel_rfl) (by kernel_rfl) (by kernel_rfl) (fun _ _ _ h => h) (by rfl) hcur _ rfl ?_
        simp only [Act.put, List.setIfInBounds_toArray, List.set_cons_zero, List.set_cons_succ]
        refine held_skip (i := 10) rfl 20 rfl (by kernel_rfl) (by kernel_rfl) (by kernel_rfl) (fun _ _ _ h => h) (by rfl) hcur _ rfl ?_
        simp only [Act.put, List.setIfInBounds_toArray, List.set_cons_zero, List.set_cons_succ]
        refine held_skip (i := 11) rfl 21 rfl (by kernel_rfl) (by kernel_rfl) (by kernel_rfl) (fun _ _ _ h => h) (by rfl) hcur _ rfl ?_
        simp only [Act.put, List.setIfInBounds_toArray, List.set_cons_zero, List.set_cons_succ]
        refine held_skip (i := 12) rfl 22 rfl (by kernel_rfl) (by kernel_rfl) (by kernel_rfl) (fun _ _ _ h => h) (by rfl) hcur _ rfl ?_
        simp only [Act.put, List.setIfInBounds_toArray, List.set_cons_zero, List.set_cons_succ]
        refine held_skip (i := 13) rfl 23 rfl (by kernel_rfl) (by kernel_rfl) (by kernel_rfl) (fun _ _ _ h => h) (by rfl) hcur _ rfl ?_
        simp only [Act.put, List.setIfInBounds_toArray, List.set_cons_zero, List.set_cons_succ]
        refine held_skip (i := 14) rfl 24 rfl (by kernel_rfl) (by kernel_rfl) (by kernel_rfl) (fun _ _ _ h => h) (by rfl) hcur _ rfl ?_
        simp only [Act.put, List.setIfInBounds_toArray, List.set_cons_zero, List.set_cons_succ]
        refine held_skip (i := 15) rfl 25 rfl (by kernel_rfl) (by kernel_rfl) (by kernel_rfl) (fun _ _ _ h => h) (by rfl) hcur _ rfl ?_
        simp only [Act.put, List.setIfInBounds_toArray, List.set_cons_zero, List.set_cons_succ]
        refine held_skip (i := 16) rfl 26 rfl (by kernel_rfl) (by kernel_rfl) (by kernel_rfl) (fun _ _ _ h => h) (by rfl) hcur _ rfl ?_
        simp only [Act.put, List.setIfInBounds_toArray, List.set_cons_zero, List.set_cons_succ]
        refine held_skip (i := 17) rfl 27 rfl (by kernel_rfl) (by kernel_rfl) (by kernel_rfl) (fun _ _ _ h => h) (by rfl) hcur _ rfl ?_
        simp only [Act.put, List.setIfInBounds_toArray, List.set_cons_zero, List.set_cons_succ]
        refine held_skip (i := 18) rfl 28 rfl (by kernel_rfl) (by kernel_rfl) (by kernel_rfl) (fun _ _ _ h => h) (by rfl) hcur _ rfl ?_
        simp only [Act.put, List.setIfInBounds_toArray, List.set_cons_zero, List.set_cons_succ]
        refine held_skip (i := 19) rfl 29 rfl (by kernel_rfl) (by kernel_rfl) (by kernel_rfl) (fun _ _ _ h => h) (by rfl) hcur _ rfl ?_
        simp only [Act.put, List.setIfInBounds_toArray, List.set_cons_zero, List.set_cons_succ]
        refine held_skip (i := 20) rfl 30 rfl (by kernel_rfl) (by kernel_rfl) (by kernel_rfl) (fun _ _ _ h => h) (by rfl) hcur _ rfl ?_
        simp only [Act.put, List.setIfInBounds_toArray, List.set_cons_zero, List.set_cons_succ]
        refine held_skip (i := 21) rfl 31 rfl (by kernel_rfl) (by kernel_rfl) (by kernel_rfl) (fun _ _ _ h => h) (by rfl) hcur _ rfl ?_
        simp only [Act.put, List.setIfInBounds_toArray, List.set_cons_zero, List.set_cons_succ]
        refine held_skip (i := 22) rfl 32 rfl (by kernel_rfl) (by kernel_rfl) (by kernel_rfl) (fun _ _ _ h => h) (by rfl) hcur _ rfl ?_
        simp only [Act.put, List.setIfInBounds_toArray, List.set_cons_zero, List.set_cons_succ]
        refine held_skip (i := 23) rfl 33 rfl (by kernel_rfl) (by kernel_rfl) (by kernel_rfl) (fun _ _ _ h => h) (by rfl) hcur _ rfl ?_
        simp only [Act.put, List.setIfInBounds_toArray, List.set_cons_zero, List.set_cons_succ]
        refine held_skip (i := 24) rfl 34 rfl (by kernel_rfl) (by kernel_rfl) (by kernel_rfl) (fun _ _ _ h => h) (by rfl) hcur _ rfl ?_
        simp only [Act.put, List.setIfInBounds_toArray, List.set_cons_zero, List.set_cons_succ]
        refine held_skip (i := 25) rfl 35 rfl (by kernel_rfl) (by kernel_rfl) (by kernel_rfl) (fun _ _ _ h => h) (by rfl) hcur _ rfl ?_
        simp only [Act.put, List.setIfInBounds_toArray, List.set_cons_zero, List.set_cons_succ]
        refine held_skip (i := 26) rfl 36 rfl (by kernel_rfl) (by kernel_rfl) (by kernel_rfl) (fun _ _ _ h => h) (by rfl) hcur _ rfl ?_
        simp only [Act.put, List.setIfInBounds_toArray, List.set_cons_zero, List.set_cons_succ]
        refine held_skip (i := 27) rfl 37 rfl (by kernel_rfl) (by kernel_rfl) (by kernel_rfl) (fun _ _ _ h => h) (by rfl) hcur _ rfl ?_
        simp only [Act.put, List.setIfInBounds_toArray, List.set_cons_zero, List.set_cons_succ]
        refine held_skip (i := 28) rfl 38 rfl (by kernel_rfl) (by kernel_rfl) (by kernel_rfl) (fun _ _ _ h => h) (by rfl) hcur _ rfl ?_
        simp only [Act.put, List.setIfInBounds_toArray, List.set_cons_zero, List.set_cons_succ]
        refine held_skip (i := 29) rfl 39 rfl (by kernel_rfl) (by kernel_rfl) (by kernel_rfl) (fun _ _ _ h => h) (by rfl) hcur _ rfl ?_
        simp only [Act.put, List.setIfInBounds_toArray, List.set_cons_zero, List.set_cons_succ]
        refine held_skip (i := 30) rfl 40 rfl (by kernel_rfl) (by kernel_rfl) (by kernel_rfl) (fun _ _ _ h => h) (by rfl) hcur _ rfl ?_
        simp only [Act.put, List.setIfInBounds_toArray, List.set_cons_zero, List.set_cons_succ]
        refine held_skip (i := 31) rfl 41 rfl (by kernel_rfl) (by kernel_rfl) (by kernel_rfl) (fun _ _ _ h => h) (by rfl) hcur _ rfl ?_
        simp only [Act.put, List.setIfInBounds_toArray, List.set_cons_zero, List.set_cons_succ]
        refine held_skip (i := 32) rfl 42 rfl (by kernel_rfl) (by kernel_rfl) (by kernel_rfl) (fun _ _ _ h => h) (by rfl) hcur _ rfl ?_
        simp only [Act.put, List.setIfInBounds_toArray, List.set_cons_zero, List.set_cons_succ]
        refine held_skip (i := 33) rfl 43 rfl (by kernel_rfl) (by kernel_rfl) (by kernel_rfl) (fun _ _ _ h => h) (by rfl) hcur _ rfl ?_
        simp only [Act.put, List.setIfInBounds_toArray, List.set_cons_zero, List.set_cons_succ]
        refine held_skip (i := 34) rfl 44 rfl (by kernel_rfl) (by kernel_rfl) (by kernel_rfl) (fun _ _ _ h => h) (by rfl) hcur _ rfl ?_
        simp only [Act.put, List.setIfInBounds_toArray, List.set_cons_zero, List.set_cons_succ]
        refine held_skip (i := 35) rfl 45 rfl (by kernel_rfl) (by kernel_rfl) (by kernel_rfl) (fun _ _ _ h => h) (by rfl) hcur _ rfl ?_
        simp only [Act.put, List.setIfInBounds_toArray, List.set_cons_zero, List.set_cons_succ]
        refine tk 36 (.bool true) 46 rfl rfl hcur ?_
        refine wpAnyH_done (by kernel_rfl) ?_ _
        unfold NoPanic
        dsimp only
        have HZ := Lib.hid hbd
        clear hcur hbd
        go_wp2_with fail
        go_ret
        exact ⟨by rw [HR.out.2.1]; rfl, HZ.out⟩
      · have h32n : y.nm.2.length ≤ 32 := by omega
        by_cases hk0 : k = 0
        · have hyes : okAt anyAs l k = true := by
            unfold okAt
            rw [hgy, decide_eq_true h32n, hk0]
            rfl
          have HR := Lib.hid (And.intro hb (And.intro hyes (And.intro hst (And.intro hlt hall))))
          clear hb hyes hst hall hk hlt hky oky hgy hrY htw hts hg hh hy h32n
          go_upto_region 4 with fail
          refine wp_region_noPanic (wp_region_held (S := fun U => U.cell? ⟨g, off + k * 34 + 32, none⟩ = some (.string tw)) (by kernel_rfl) ?_)
          change wpAnyH _ _ _ _ _ 37 _ _ (World.drew wr)
          have hcd : Below wr.heap.size wr wr.drew := (Below.refl _ _).drew
          have hbd := HR.out.1.trans (hcd.mono HR.out.1.size)
          generalize World.drew wr = wd at hbd ⊢
          have hcur := HR.out.2.2.1 wd hbd
          clear hcd
          refine tk 0 (.slice (some ⟨g, off, none⟩) l.length c) 10 rfl rfl hcur ?_
          refine tk 1 (.int .i64 k) 11 rfl rfl hcur ?_
          refine tk 2 (.pointer (some ⟨g, off + k * 34, none⟩)) 12 rfl rfl hcur ?_ (by intro w' hS'; unfold execOp; simp [go_sem, m0, m1])
          refine tk 3 (.pointer (some ⟨g, off + k * 34 + 32, none⟩)) 13 rfl rfl hcur ?_
          refine tk 4 (.string tw) 14 rfl rfl hcur ?_ (by intro w' hS'; have q := hS'; unfold execOp; simp [go_sem, q])
          refine tk 5 (.int .i64 tw.size) 15 rfl rfl hcur ?_ (by intro w' hS'; unfold execOp; simp [go_sem, hti])
          refine tk 6 (.bool false) 16 rfl rfl hcur ?_ (by intro w' hS'; have q : decide ((32 : Int) < (tw.size : Int)) = false := decide_eq_false h32; unfold execOp; simp [go_sem, q])
          refine tk 7 (.bool false) 17 rfl rfl hcur ?_
          refine tk 8 (.int .i64 k) 18 rfl rfl hcur ?_
          refine tk 9 (.bool false) 19 rfl rfl hcur ?_ (by intro w' hS'; unfold execOp; simp [go_sem, hk0])
          refine tk 10 (.bool false) 20 rfl rfl hcur ?_
          refine held_skip (i := 11) rfl 21 rfl (by kernel_rfl) (by kernel_rfl) (by kernel_rfl) (fun _ _ _ h => h) (by rfl) hcur _ rfl ?_
          simp only [Act.put, List.setIfInBounds_toArray, List.set_cons_zero, List.set_cons_succ]
          refine held_skip (i := 12) rfl 22 rfl (by kernel_rfl) (by kernel_rfl) (by kernel_rfl) (fun _ _ _ h => h) (by rfl) hcur _ rfl ?_
          simp only [Act.put, List.setIfInBounds_toArray, List.set_cons_zero, List.set_cons_succ]
          refine held_skip (i := 13) rfl 23 rfl (by kernel_rfl) (by kernel_rfl) (by kernel_rfl) (fun _ _ _ h => h) (by rfl) hcur _ rfl ?_
          simp only [Act.put, List.setIfInBounds_toArray, List.set_cons_zero, List.set_cons_succ]
          refine held_skip (i := 14) rfl 24 rfl (by kernel_rfl) (by kernel_rfl) (by kernel_rfl) (fun _ _ _ h => h) (by rfl) hcur _ rfl ?_
          simp only [Act.put, List.setIfInBounds_toArray, List.set_cons_zero, List.set_cons_succ]
          refine held_skip (i := 15) rfl 25 rfl (by kernel_rfl) (by kernel_rfl) (by kernel_rfl) (fun _ _ _ h => h) (by rfl) hcur _ rfl ?_
          simp only [Act.put, List.setIfInBounds_toArray, List.set_cons_zero, List.set_cons_succ]
          refine held_skip (i := 16) rfl 26 rfl (by kernel_rfl) (by kernel_rfl) (by kernel_rfl) (fun _ _ _ h => h) (by rfl) hcur _ rfl ?_
          simp only [Act.put, List.setIfInBounds_toArray, List.set_cons_zero, List.set_cons_succ]
          refine held_skip (i := 17) rfl 27 rfl (by kernel_rfl) (by kernel_rfl) (by kernel_rfl) (fun _ _ _ h => h) (by rfl) hcur _ rfl ?_
          simp only [Act.put, List.setIfInBounds_toArray, List.set_cons_zero, List.set_cons_succ]
          refine held_skip (i := 18) rfl 28 rfl (by kernel_rfl) (by kernel_rfl) (by kernel_rfl) (fun _ _ _ h => h) (by rfl) hcur _ rfl ?_
          simp only [Act.put, List.setIfInBounds_toArray, List.set_cons_zero, List.set_cons_succ]
          refine held_skip (i := 19) rfl 29 rfl (by kernel_rfl) (by kernel_rfl) (by kernel_rfl) (fun _ _ _ h => h) (by rfl) hcur _ rfl ?_
          simp only [Act.put, List.setIfInBounds_toArray, List.set_cons_zero, List.set_cons_succ]
          refine held_skip (i := 20) rfl 30 rfl (by kernel_rfl) (by kernel_rfl) (by kernel_rfl) (fun _ _ _ h => h) (by rfl) hcur _ rfl ?_
          simp only [Act.put, List.setIfInBounds_toArray, List.set_cons_zero, List.set_cons_succ]
          refine held_skip (i := 21) rfl 31 rfl (by kernel_rfl) (by kernel_rfl) (by kernel_rfl) (fun _ _ _ h => h) (by rfl) hcur _ rfl ?_
          simp only [Act.put, List.setIfInBounds_toArray, List.set_cons_zero, List.set_cons_succ]
          refine held_skip (i := 22) rfl 32 rfl (by kernel_rfl) (by kernel_rfl) (by kernel_rfl) (fun _ _ _ h => h) (by rfl) hcur _ rfl ?_
          simp only [Act.put, List.setIfInBounds_toArray, List.set_cons_zero, List.set_cons_succ]
          refine held_skip (i := 23) rfl 33 rfl (by kernel_rfl) (by kernel_rfl) (by kernel_rfl) (fun _ _ _ h => h) (by rfl) hcur _ rfl ?_
          simp only [Act.put, List.setIfInBounds_toArray, List.set_cons_zero, List.set_cons_succ]
          refine held_skip (i := 24) rfl 34 rfl (by kernel_rfl) (by kernel_rfl) (by kernel_rfl) (fun _ _ _ h => h) (by rfl) hcur _ rfl ?_
          simp only [Act.put, List.setIfInBounds_toArray, List.set_cons_zero, List.set_cons_succ]
          refine held_skip (i := 25) rfl 35 rfl (by kernel_rfl) (by kernel_rfl) (by kernel_rfl) (fun _ _ _ h => h) (by rfl) hcur _ rfl ?_
          simp only [Act.put, List.setIfInBounds_toArray, List.set_cons_zero, List.set_cons_succ]
          refine held_skip (i := 26) rfl 36 rfl (by kernel_rfl) (by kernel_rfl) (by kernel_rfl) (fun _ _ _ h => h) (by rfl) hcur _ rfl ?_
          simp only [Act.put, List.setIfInBounds_toArray, List.set_cons_zero, List.set_cons_succ]
          refine held_skip (i := 27) rfl 37 rfl (by kernel_rfl) (by kernel_rfl) (by kernel_rfl) (fun _ _ _ h => h) (by rfl) hcur _ rfl ?_
          simp only [Act.put, List.setIfInBounds_toArray, List.set_cons_zero, List.set_cons_succ]
          refine held_skip (i := 28) rfl 38 rfl (by kernel_rfl) (by kernel_rfl) (by kernel_rfl) (fun _ _ _ h => h) (by rfl) hcur _ rfl ?_
          simp only [Act.put, List.setIfInBounds_toArray, List.set_cons_zero, List.set_cons_succ]
          refine held_skip (i := 29) rfl 39 rfl (by kernel_rfl) (by kernel_rfl) (by kernel_rfl) (fun _ _ _ h => h) (by rfl) hcur _ rfl ?_
          simp only [Act.put, List.setIfInBounds_toArray, List.set_cons_zero, List.set_cons_succ]
          refine held_skip (i := 30) rfl 40 rfl (by kernel_rfl) (by kernel_rfl) (by kernel_rfl) (fun _ _ _ h => h) (by rfl) hcur _ rfl ?_
          simp only [Act.put, List.setIfInBounds_toArray, List.set_cons_zero, List.set_cons_succ]
          refine held_skip (i := 31) rfl 41 rfl (by kernel_rfl) (by kernel_rfl) (by kernel_rfl) (fun _ _ _ h => h) (by rfl) hcur _ rfl ?_
          simp only [Act.put, List.setIfInBounds_toArray, List.set_cons_zero, List.set_cons_succ]
          refine held_skip (i := 32) rfl 42 rfl (by kernel_rfl) (by kernel_rfl) (by kernel_rfl) (fun _ _ _ h => h) (by rfl) hcur _ rfl ?_
          simp only [Act.put, List.setIfInBounds_toArray, List.set_cons_zero, List.set_cons_succ]
          refine held_skip (i := 33) rfl 43 rfl (by kernel_rfl) (by kernel_rfl) (by kernel_rfl) (fun _ _ _ h => h) (by rfl) hcur _ rfl ?_
          simp only [Act.put, List.setIfInBounds_toArray, List.set_cons_zero, List.set_cons_succ]
          refine held_skip (i := 34) rfl 44 rfl (by kernel_rfl) (by kernel_rfl) (by kernel_rfl) (fun _ _ _ h => h) (by rfl) hcur _ rfl ?_
          simp only [Act.put, List.setIfInBounds_toArray, List.set_cons_zero, List.set_cons_succ]
          refine tk 35 (.bool false) 45 rfl rfl hcur ?_
          refine tk 36 (.bool false) 46 rfl rfl hcur ?_
          refine wpAnyH_done (by kernel_rfl) ?_ _
          unfold NoPanic
          dsimp only
          have HZ := Lib.hid hbd
          clear hcur hbd hk0
          go_wp2_with fail
          have e1 : (k : Int) + 1 = ((k + 1 : Nat) : Int) := by omega
          rw [e1]
          refine ⟨⟨k + 1, HR.out.2.2.2.1, rfl, fun i hi => ?_, HZ.out⟩, ?_⟩
          · rcases Nat.lt_or_eq_of_le (Nat.le_of_lt_succ hi) with h | h
            · exact HR.out.2.2.2.2 i h
            · rw [h]; exact HR.out.2.1
          · have h := HR.out.2.2.2.1
            show l.length - (k + 1) < l.length - k
            omega
        · obtain ⟨kp, hkp⟩ : ∃ kp, kp = k - 1 := ⟨_, rfl⟩
          have hkp1 : k = kp + 1 := by omega
          have n1 : (kp : Int) < (l.length : Int) := by omega
          have n0 : (0 : Int) ≤ (kp : Int) := by omega
          have hkg : 0 < k := by omega
          have hw1 : IntKind.i64.wrap ((k : Int) - 1) = (kp : Int) := by rw [IntKind.wrap_i64]; omega
          obtain ⟨x, hx⟩ : ∃ x, x = l[kp]'(by omega) := ⟨_, rfl⟩
          have hkx : l[kp]? = some x := by rw [hx, List.getElem?_eq_getElem (by omega)]
          have okx := H.out.2.1 x (List.mem_of_getElem? hkx)
          have hgx := getD_of hkx
          have hrX : ∀ U, Below w.heap.size w U → U.rangeAt g (off + kp * 34) (asC x).toList := fun U hU => (hh.below hU hg) kp x hkx
          obtain ⟨pv, hpv⟩ : ∃ v, v = B8 x.nm.1 := ⟨_, rfl⟩
          obtain ⟨tv, htv⟩ : ∃ v, v = txt x.nm.2 := ⟨_, rfl⟩
          obtain ⟨pw, hpw⟩ : ∃ v, v = B8 y.nm.1 := ⟨_, rfl⟩
          obtain ⟨z, hz⟩ : ∃ z, z = cN x.nm y.nm := ⟨_, rfl⟩
          have hord : ∀ U, Calls Tryz.prog 82 #[.agg pv, .string tv, .agg pw, .string tw] U fun e w' => e = .returned (.int .i64 z) ∧ Below U.heap.size U w' := fun U => by
            rw [hpv, htv, hpw, htw, hz]; exact rorder_any U x.nm y.nm okx.1 oky.1
          have hsz1 : (Tryz.prog.info? 26).map (·.size) = some pv.size := by rw [hpv, B8_size, okx.1]; exact info_hash
          have hsz2 : (Tryz.prog.info? 26).map (·.size) = some pw.size := by rw [hpw, B8_size, oky.1]; exact info_hash
          have hS0 : ∀ U, Below w.heap.size w U → U.rangeAt g (off + kp * 34) pv.toList ∧ U.cell? ⟨g, off + kp * 34 + 32, none⟩ = some (.string tv) ∧ U.rangeAt g (off + k * 34) pw.toList ∧ U.cell? ⟨g, off + k * 34 + 32, none⟩ = some (.string tw) := fun U hU => by
            rw [hpv, htv, hpw]
            exact ⟨asC_polR okx.1 (hrX U hU), asC_strR okx.1 (hrX U hU), asC_polR oky.1 (hrY U hU), hst U hU⟩
          have hok : okAt anyAs l k = decide (z < 0) := by
            unfold okAt
            have e1 : k - 1 = kp := by omega
            have e2 : (k == 0) = false := by simpa using hk0
            rw [hgy, e1, hgx, decide_eq_true h32n, e2, ← hz]
            simp [anyAs]
          have HR := Lib.hid (And.intro hb (And.intro hok (And.intro hS0 (And.intro hlt (And.intro hall (And.intro hord (And.intro hsz1 hsz2)))))))
          clear hb hok hS0 hlt hall hord hsz1 hsz2 hst hk hky oky hgy hrY htw hts hg hh hy h32n hk0 hkp hkp1 hx hkx okx hgx hrX hpv htv hpw hz
          go_upto_region 4 with fail
          refine wp_region_noPanic (wp_region_held (S := fun U => U.rangeAt g (off + kp * 34) pv.toList ∧ U.cell? ⟨g, off + kp * 34 + 32, none⟩ = some (.string tv) ∧ U.rangeAt g (off + k * 34) pw.toList ∧ U.cell? ⟨g, off + k * 34 + 32, none⟩ = some (.string tw)) (by kernel_rfl) ?_)
          change wpAnyH _ _ _ _ _ 37 _ _ (World.drew wr)
          have hcd : Below wr.heap.size wr wr.drew := (Below.refl _ _).drew
          have hbd := HR.out.1.trans (hcd.mono HR.out.1.size)
          generalize World.drew wr = wd at hbd ⊢
          have hcur := HR.out.2.2.1 wd hbd
          clear hcd
          refine tk 0 (.slice (some ⟨g, off, none⟩) l.length c) 10 rfl rfl hcur ?_
          refine tk 1 (.int .i64 k) 11 rfl rfl hcur ?_
          refine tk 2 (.pointer (some ⟨g, off + k * 34, none⟩)) 12 rfl rfl hcur ?_ (by intro w' hS'; unfold execOp; simp [go_sem, m0, m1])
          refine tk 3 (.pointer (some ⟨g, off + k * 34 + 32, none⟩)) 13 rfl rfl hcur ?_
          refine tk 4 (.string tw) 14 rfl rfl hcur ?_ (by intro w' hS'; have q := hS'.2.2.2; unfold execOp; simp [go_sem, q])
          refine tk 5 (.int .i64 tw.size) 15 rfl rfl hcur ?_ (by intro w' hS'; unfold execOp; simp [go_sem, hti])
          refine tk 6 (.bool false) 16 rfl rfl hcur ?_ (by intro w' hS'; have q : decide ((32 : Int) < (tw.size : Int)) = false := decide_eq_false h32; unfold execOp; simp [go_sem, q])
          refine tk 7 (.bool false) 17 rfl rfl hcur ?_
          refine tk 8 (.int .i64 k) 18 rfl rfl hcur ?_
          refine tk 9 (.bool true) 19 rfl rfl hcur ?_ (by intro w' hS'; unfold execOp; simp [go_sem, hkg])
          refine tk 10 (.bool true) 20 rfl rfl hcur ?_
          refine tk 11 (.slice (some ⟨g, off, none⟩) l.length c) 21 rfl rfl hcur ?_
          refine tk 12 (.int .i64 k) 22 rfl rfl hcur ?_
          refine tk 13 (.int .i64 kp) 23 rfl rfl hcur ?_ (by intro w' hS'; unfold execOp; simp [go_sem, hw1])
          refine tk 14 (.pointer (some ⟨g, off + kp * 34, none⟩)) 24 rfl rfl hcur ?_ (by intro w' hS'; unfold execOp; simp [go_sem, n0, n1])
          refine tk 15 (.pointer (some ⟨g, off + kp * 34, none⟩)) 25 rfl rfl hcur ?_
          refine tk 16 (.agg pv) 26 rfl rfl hcur ?_ (by intro w' hS'; exact exec_loadM 26 _ rfl _ _ rfl pv hS'.1 Tryz.underlying26 rfl HR.out.2.2.2.2.2.2.1)
          refine tk 17 (.slice (some ⟨g, off, none⟩) l.length c) 27 rfl rfl hcur ?_
          refine tk 18 (.int .i64 k) 28 rfl rfl hcur ?_
          refine tk 19 (.int .i64 kp) 29 rfl rfl hcur ?_ (by intro w' hS'; unfold execOp; simp [go_sem, hw1])
          refine tk 20 (.pointer (some ⟨g, off + kp * 34, none⟩)) 30 rfl rfl hcur ?_ (by intro w' hS'; unfold execOp; simp [go_sem, n0, n1])
          refine tk 21 (.pointer (some ⟨g, off + kp * 34 + 32, none⟩)) 31 rfl rfl hcur ?_
          refine tk 22 (.string tv) 32 rfl rfl hcur ?_ (by intro w' hS'; have q := hS'.2.1; unfold execOp; simp [go_sem, q])
          refine tk 23 (.slice (some ⟨g, off, none⟩) l.length c) 33 rfl rfl hcur ?_
          refine tk 24 (.int .i64 k) 34 rfl rfl hcur ?_
          refine tk 25 (.pointer (some ⟨g, off + k * 34, none⟩)) 35 rfl rfl hcur ?_ (by intro w' hS'; unfold execOp; simp [go_sem, m0, m1])
          refine tk 26 (.pointer (some ⟨g, off + k * 34, none⟩)) 36 rfl rfl hcur ?_
          refine tk 27 (.agg pw) 37 rfl rfl hcur ?_ (by intro w' hS'; exact exec_loadM 26 _ rfl _ _ rfl pw hS'.2.2.1 Tryz.underlying26 rfl HR.out.2.2.2.2.2.2.2)
          refine tk 28 (.slice (some ⟨g, off, none⟩) l.length c) 38 rfl rfl hcur ?_
          refine tk 29 (.int .i64 k) 39 rfl rfl hcur ?_
          refine tk 30 (.pointer (some ⟨g, off + k * 34, none⟩)) 40 rfl rfl hcur ?_ (by intro w' hS'; unfold execOp; simp [go_sem, m0, m1])
          refine tk 31 (.pointer (some ⟨g, off + k * 34 + 32, none⟩)) 41 rfl rfl hcur ?_
          refine tk 32 (.string tw) 42 rfl rfl hcur ?_ (by intro w' hS'; have q := hS'.2.2.2; unfold execOp; simp [go_sem, q])
          refine held_one (i := 33) (by kernel_rfl) _ rfl (wpOp_callG rfl (by rfl) 43 rfl 82 #[.agg pv, .string tv, .agg pw, .string tw] (by unfold execOp; simp [go_sem]) _ (ret_of (HR.out.2.2.2.2.2.1 _)) ?_)
          rintro v1 w1 ⟨rfl, hb1⟩
          have hb2 := hbd.trans (hb1.mono hbd.size)
          have hcur := HR.out.2.2.1 w1 hb2
          refine ⟨hcur, ?_⟩
          simp only [Act.put, List.setIfInBounds_toArray, List.set_cons_zero, List.set_cons_succ]
          obtain ⟨bz, hbz⟩ : ∃ b, b = decide ((0 : Int) ≤ z) := ⟨_, rfl⟩
          refine tk 34 (.bool bz) 44 rfl rfl hcur ?_ (by intro w' hS'; have q : decide ((0 : Int) ≤ z) = bz := hbz.symm; unfold execOp; simp [go_sem, q])
          refine tk 35 (.bool bz) 45 rfl rfl hcur ?_
          refine tk 36 (.bool bz) 46 rfl rfl hcur ?_
          refine wpAnyH_done (by kernel_rfl) ?_ _
          unfold NoPanic
          dsimp only
          have HZ := Lib.hid (And.intro hb2 hbz)
          clear hcur hb1 hb2 hbd hbz
          cases bz with
          | true =>
            have hz0 : ¬ z < 0 := by have := of_decide_eq_true HZ.out.2.symm; omega
            have hres : risB l = false := by
              unfold risB
              rw [well_no HR.out.2.2.2.1 (by rw [HR.out.2.1, decide_eq_false hz0])]
              rfl
            have HE := Lib.hid hres
            clear hz0 hres
            go_wp2_with fail
            go_ret
            exact ⟨by rw [HE.out]; rfl, HZ.out.1⟩
          | false =>
            have hz0 : z < 0 := by have := of_decide_eq_false HZ.out.2.symm; omega
            have hyes : okAt anyAs l k = true := by rw [HR.out.2.1, decide_eq_true hz0]
            have HE := Lib.hid hyes
            clear hz0 hyes
            go_wp2_with fail
            have e1 : (k : Int) + 1 = ((k + 1 : Nat) : Int) := by omega
            rw [e1]
            refine ⟨⟨k + 1, HR.out.2.2.2.1, rfl, fun i hi => ?_, HZ.out.1⟩, ?_⟩
            · rcases Nat.lt_or_eq_of_le (Nat.le_of_lt_succ hi) with h | h
              · exact HR.out.2.2.2.2.1 i h
              · rw [h]; exact HE.out
            · have h := HR.out.2.2.2.1
              show l.length - (k + 1) < l.length - k
              omega
    · have m1 : ¬ (k : Int) < (l.length : Int) := by omega
      have e1 : k = l.length := by omega
      rw [e1] at hall
      have hres : risB l = decide ((l.length : Int) ≤ 30) := by
        unfold risB
        rw [well_yes hall, Bool.true_and]
        by_cases h : l.length ≤ 30
        · rw [decide_eq_true h, decide_eq_true (by omega)]
        · rw [decide_eq_false h, decide_eq_false (by omega)]
      have HE := Lib.hid (And.intro hres hb)
      clear hres hb hall hk hlt e1
      go_wp2_with fail
      go_ret
      exact ⟨by rw [HE.out.1]; rfl, HE.out.2⟩
end Go.Proofs.YtjngghihciimjaaGreat
