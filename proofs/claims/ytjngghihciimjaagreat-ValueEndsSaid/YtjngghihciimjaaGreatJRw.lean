/-
  The document's own Totals.
-/
import Derived.Test.YtjngghihciimjaaGreatJRv
import Derived.Test.YtjngghihciimjaaGreatJVmc
namespace Go.Proofs.YtjngghihciimjaaGreat
set_option maxRecDepth 100000
open Go.RowKit Go.Sort Go.Maps
theorem getD_ofT {l : List To} {k : Nat} {y : To} (h : l[k]? = some y) : l.getD k default = y := by
 rw [List.getD_eq_getElem?_getD, h]
 rfl
theorem wide_range {U : World} {g o : Nat} {a b : Value} (h0 : U.cell? ⟨g, o, none⟩ = some a) (h1 : U.cell? ⟨g, o + 1, none⟩ = some b) : U.rangeAt g o (#[a, b] : Array Value).toList := fun j v hv => by
 match j, hv with
 | 0, hv => cases hv; exact h0
 | 1, hv => cases hv; exact h1
 | j + 2, hv => simp at hv
attribute [-go_sem] Instr.build
set_option maxHeartbeats 8000000 in
theorem rtotals_any (w : World) (pa : Option Addr) (l : List To) (c : Nat) (h : RowT w pa l) :
    Calls Tryz.prog 44 #[.slice pa l.length c] w fun e w' => e = .returned (.bool (wellT nzT l)) ∧ Below w.heap.size w w' := by
  have hli : (l.length : Int) ≤ 9223372036854775807 := by have := h.1; unfold maxLen at this; omega
  have hzb : ∀ W, (Instr.build 48 #[]).run Tryz.prog W = .ok (.agg #[.int .i64 0, .int .u64 0]) W := fun W => run_build W 48 _ _ (by kernel_rfl)
  have H := Lib.hid h
  have HZB := Lib.hid hzb
  clear h hzb
  go_enter Tryz.func44, Tryz.ntmps44
  go_wp2_with fail
  go_loopw [3] (fun i W => ∃ k : Nat, k ≤ l.length ∧ i = .int .i64 k ∧ (∀ i, i < k → okT nzT l i = true) ∧ Below w.heap.size w W) (fun i _ => l.length - (intOf i).toNat)
  case atStart => exact ⟨0, Nat.zero_le _, rfl, fun i hi => absurd hi (Nat.not_lt_zero _), Below.refl _ _⟩
  case round =>
    obtain ⟨k, hk, rfl, hall, hb⟩ := hrel
    by_cases hlt : k < l.length
    · have m1 : (k : Int) < (l.length : Int) := by omega
      have m0 : (0 : Int) ≤ (k : Int) := by omega
      obtain ⟨g, off, rfl, hg, hh⟩ := H.out.2.2 (by omega)
      obtain ⟨y, hy⟩ : ∃ y, y = l[k] := ⟨_, rfl⟩
      have hky : l[k]? = some y := by rw [hy, List.getElem?_eq_getElem hlt]
      have oky := H.out.2.1 y (List.mem_of_getElem? hky)
      have hgy := getD_ofT hky
      have hrY : ∀ U, Below w.heap.size w U → U.rangeAt g (off + k * 35) (toC y).toList := fun U hU => (hh.below hU hg) k y hky
      obtain ⟨tw, htw⟩ : ∃ v, v = txt y.nm.2 := ⟨_, rfl⟩
      have hts : tw.size = y.nm.2.length := by rw [htw]; exact txt_size _
      have hti : (tw.size : Int) ≤ 9223372036854775807 := by rw [hts]; have := oky.2; unfold maxLen at this; omega
      have hst : ∀ U, Below w.heap.size w U → U.cell? ⟨g, off + k * 35 + 32, none⟩ = some (.string tw) := fun U hU => by rw [htw]; exact toC_str oky.1 (hrY U hU)
      obtain ⟨vw, hvw⟩ : ∃ v : Array Value, v = #[.int .i64 (hiS y.w), .int .u64 (loN y.w)] := ⟨_, rfl⟩
      have hwd : ∀ U, Below w.heap.size w U → U.rangeAt g (off + k * 35 + 33) vw.toList := fun U hU => by
        have := toC_wide oky.1 (hrY U hU)
        rw [hvw]
        exact wide_range this.1 this.2
      have hszw : (Tryz.prog.info? 48).map (·.size) = some vw.size := by rw [hvw]; kernel_rfl
      have heqw : ∀ W, (Op.equalIn 10000 48 (.agg vw) (.agg #[.int .i64 0, .int .u64 0])).run Tryz.prog W = .ok (decide (y.w = 0)) W := fun W => by
        rw [hvw]; exact eq_w W y.w 0
      have HW := Lib.hid (And.intro hszw heqw)
      clear hszw heqw hvw
      by_cases hw0 : y.w = 0
      · have hno : okT nzT l k = false := by
          unfold okT nzT
          rw [hgy, hw0]
          simp
        have hres : wellT nzT l = false := wellT_no hlt hno
        have hdw : decide (y.w = 0) = true := decide_eq_true hw0
        have HR := Lib.hid (And.intro hb (And.intro hres hwd))
        have HDW := Lib.hid hdw
        clear hb hres hwd hdw hw0 hst hall hk hlt hky oky hgy hrY htw hts hti hno hg hh hy
        go_upto_region 4 with fail
        refine wp_region_noPanic (wp_region_held (S := fun U => U.rangeAt g (off + k * 35 + 33) vw.toList) (by kernel_rfl) ?_)
        change wpAnyH _ _ _ _ _ 46 _ _ (World.drew wr)
        have hbd : Below w.heap.size w wr.drew := HR.out.1.drew
        generalize World.drew wr = wd at hbd ⊢
        have hcur := HR.out.2.2 wd hbd
        have hzb := HZB.out
        have heqw := HW.out.2
        rw [HDW.out] at heqw
        refine tk 0 (.slice (some ⟨g, off, none⟩) l.length c) 10 rfl rfl hcur ?_
        refine tk 1 (.int .i64 k) 11 rfl rfl hcur ?_
        refine tk 2 (.pointer (some ⟨g, off + k * 35, none⟩)) 12 rfl rfl hcur ?_ (by intro w' hS'; unfold execOp; simp [go_sem, m0, m1])
        refine tk 3 (.pointer (some ⟨g, off + k * 35 + 33, none⟩)) 13 rfl rfl hcur ?_
        refine tk 4 (.agg vw) 14 rfl rfl hcur ?_ (by intro w' hS'; exact exec_loadM 48 _ rfl _ _ rfl vw hS' Tryz.underlying48 rfl HW.out.1)
        refine tk 5 (.agg #[.int .i64 0, .int .u64 0]) 15 rfl rfl hcur ?_ (by intro w' hS'; unfold execOp; simp [go_sem, hzb])
        refine tk 6 (.bool true) 16 rfl rfl hcur ?_ (by intro w' hS'; unfold execOp; simp [go_sem, heqw])
        refine tk 7 (.bool true) 17 rfl rfl hcur ?_
        refine held_skip (i := 8) rfl 18 rfl (by kernel_rfl) (by kernel_rfl) (by kernel_rfl) (fun _ _ _ h => h) (by rfl) hcur _ rfl ?_
        simp only [Act.put, List.setIfInBounds_toArray, List.set_cons_zero, List.set_cons_succ]
        refine held_skip (i := 9) rfl 19 rfl (by kernel_rfl) (by kernel_rfl) (by kernel_rfl) (fun _ _ _ h => h) (by rfl) hcur _ rfl ?_
        simp only [Act.put, List.setIfInBounds_toArray, List.set_cons_zero, List.set_cons_succ]
        refine held_skip (i := 10) rfl 20 rfl (by kernel_rfl) (by kernel_rfl) (by kernel_rfl) (fun _ _ _ h => h) (by rfl) hcur _ rfl ?_
        simp only [Act.put, List.setIfInBounds_toArray, List.set_cons_zero, List.set_cons_succ]
        refine held_skip (i := 11) rfl 21 rfl (by kernel_rfl) (by kernel_rfl) (by kernel_rfl) (fun _ _ _ h => h) (by rfl) hcur _ rfl ?_
        simp only [Act.put, List.setIfInBounds_toArray, List.set_cons_zero, List.set_cons_succ]
        refine held_skip (i := 12) rfl 22 rfl (by kernel_rfl) (by kernel_rfl) (by kernel_rfl) (fun _ _ _ h => h) (by rfl) hcur _ rfl ?_
        simp only [Act.put, List.setIfInBounds_toArray, List.set_cons_zero, List.set_cons_succ]
        refine held_skip (i := 13) rfl 23 rfl (by kernel_rfl) (by kernel_rfl) (by kernel_rfl) (fun _ _ _ h => h) (by rfl) hcur _ rfl ?_
        simp only [Act.put, List.setIfInBounds_toArray, List.set_cons_zero, List.set_cons_succ]
        refine held_skip (i := 14) rfl 24 rfl (by kernel_rfl) (by kernel_rfl) (by kernel_rfl) (fun _ _ _ h => h) (by rfl) hcur _ rfl ?_
        simp only [Act.put, List.setIfInBounds_toArray, List.set_cons_zero, List.set_cons_succ]
        refine tk 15 (.bool true) 25 rfl rfl hcur ?_
        refine tk 16 (.bool true) 26 rfl rfl hcur ?_
        refine held_skip (i := 17) rfl 27 rfl (by kernel_rfl) (by kernel_rfl) (by kernel_rfl) (fun _ _ _ h => h) (by rfl) hcur _ rfl ?_
        simp only [Act.put, List.setIfInBounds_toArray, List.set_cons_zero, List.set_cons_succ]
        refine held_skip (i := 18) rfl 28 rfl (by kernel_rfl) (by kernel_rfl) (by kernel_rfl) (fun _ _ _ h => h) (by rfl) hcur _ rfl ?_
        simp only [Act.put, List.setIfInBounds_toArray, List.set_cons_zero, List.set_cons_succ]
        refine held_skip (i := 19) rfl 29 rfl (by kernel_rfl) (by kernel_rfl) (by kernel_rfl) (fun _ _ _ h => h) (by rfl) hcur _ rfl ?_
        simp only [Act.put, List.setIfInBounds_toArray, List.set_cons_zero, List.set_cons_succ]
        refine held_skip (i := 20) rfl 30 rfl (by kernel_rfl) (by kernel_rfl) (by kernel_rfl) (fun _ _ _ h => h) (by rfl) hcur _ rfl ?_
        simp only [Act.put, List.setIfInBounds_toArray, List.set_cons_zero, List.set_cons_succ]
        refine held_skip (i := 21) rfl 31 rfl (by kernel_rfl) (by kernel_rfl) (by kernel_rfl) (fun _ _ _ h => h) (by rfl) hcur _ rfl ?_
        simp only [Act.put, List.setIfInBounds_toArray, List.set_cons_zero, List.set_cons_succ]
        refine held_skip (i := 22) rfl 32 rfl (by kernel_rfl) (by kernel_rfl) (by kernel_rfl) (fun _ _ _ h => h) (by rfl) hcur _ rfl ?_
        simp only [Act.put, List.setIfInBounds_toArray, List.set_cons_zero, List.set_cons_succ]
        refine held_skip (i := 23) rfl 33 rfl (by kernel_rfl) (by kernel_rfl) (by kernel_rfl) (fun _ _ _ h => h) (by rfl) hcur _ rfl ?_
        simp only [Act.put, List.setIfInBounds_toArray, List.set_cons_zero, List.set_cons_succ]
        refine held_skip (i := 24) rfl 34 rfl (by kernel_rfl) (by kernel_rfl) (by kernel_rfl) (fun _ _ _ h => h) (by rfl) hcur _ rfl ?_
        simp only [Act.put, List.setIfInBounds_toArray, List.set_cons_zero, List.set_cons_succ]
        refine held_skip (i := 25) rfl 35 rfl (by kernel_rfl) (by kernel_rfl) (by kernel_rfl) (fun _ _ _ h => h) (by rfl) hcur _ rfl ?_
        simp only [Act.put, List.setIfInBounds_toArray, List.set_cons_zero, List.set_cons_succ]
        refine held_skip (i := 26) rfl 36 rfl (by kernel_rfl) (by kernel_rfl) (by kernel_rfl) (fun _ _ _ h => h) (by rfl) hcur _ rfl ?_
        simp only [Act.put, List.setIfInBounds_toArray, List.set_cons_zero, List.set_cons_succ]
        refine held_skip (i := 27) rfl 37 rfl (by kernel_rfl) (by kernel_rfl) (by kernel_rfl) (fun _ _ _ h => h) (by rfl) hcur _ rfl ?_
        simp only [Act.put, List.setIfInBounds_toArray, List.set_cons_zero, List.set_cons_succ]
        refine held_skip (i := 28) rfl 38 rfl (by kernel_rfl) (by kernel_rfl) (by kernel_rfl) (fun _ _ _ h => h) (by rfl) hcur _ rfl ?_
        simp only [Act.put, List.setIfInBounds_toArray, List.set_cons_zero, List.set_cons_succ]
        refine held_skip (i := 29) rfl 39 rfl (by kernel_rfl) (by kernel_rfl) (by kernel_rfl) (fun _ _ _ h => h) (by rfl) hcur _ rfl ?_
        simp only [Act.put, List.setIfInBounds_toArray, List.set_cons_zero, List.set_cons_succ]
        refine held_skip (i := 30) rfl 40 rfl (by kernel_rfl) (by kernel_rfl) (by kernel_rfl) (fun _ _ _ h => h) (by rfl) hcur _ rfl ?_
        simp only [Act.put, List.setIfInBounds_toArray, List.set_cons_zero, List.set_cons_succ]
        refine held_skip (i := 31) rfl 41 rfl (by kernel_rfl) (by kernel_rfl) (by kernel_rfl) (fun _ _ _ h => h) (by rfl) hcur _ rfl ?_
        simp only [Act.put, List.setIfInBounds_toArray, List.set_cons_zero, List.set_cons_succ]
        refine held_skip (i := 32) rfl 42 rfl (by kernel_rfl) (by kernel_rfl) (by kernel_rfl) (fun _ _ _ h => h) (by rfl) hcur _ rfl ?_
        simp only [Act.put, List.setIfInBounds_toArray, List.set_cons_zero, List.set_cons_succ]
        refine held_skip (i := 33) rfl 43 rfl (by kernel_rfl) (by kernel_rfl) (by kernel_rfl) (fun _ _ _ h => h) (by rfl) hcur _ rfl ?_
        simp only [Act.put, List.setIfInBounds_toArray, List.set_cons_zero, List.set_cons_succ]
        refine held_skip (i := 34) rfl 44 rfl (by kernel_rfl) (by kernel_rfl) (by kernel_rfl) (fun _ _ _ h => h) (by rfl) hcur _ rfl ?_
        simp only [Act.put, List.setIfInBounds_toArray, List.set_cons_zero, List.set_cons_succ]
        refine held_skip (i := 35) rfl 45 rfl (by kernel_rfl) (by kernel_rfl) (by kernel_rfl) (fun _ _ _ h => h) (by rfl) hcur _ rfl ?_
        simp only [Act.put, List.setIfInBounds_toArray, List.set_cons_zero, List.set_cons_succ]
        refine held_skip (i := 36) rfl 46 rfl (by kernel_rfl) (by kernel_rfl) (by kernel_rfl) (fun _ _ _ h => h) (by rfl) hcur _ rfl ?_
        simp only [Act.put, List.setIfInBounds_toArray, List.set_cons_zero, List.set_cons_succ]
        refine held_skip (i := 37) rfl 47 rfl (by kernel_rfl) (by kernel_rfl) (by kernel_rfl) (fun _ _ _ h => h) (by rfl) hcur _ rfl ?_
        simp only [Act.put, List.setIfInBounds_toArray, List.set_cons_zero, List.set_cons_succ]
        refine held_skip (i := 38) rfl 48 rfl (by kernel_rfl) (by kernel_rfl) (by kernel_rfl) (fun _ _ _ h => h) (by rfl) hcur _ rfl ?_
        simp only [Act.put, List.setIfInBounds_toArray, List.set_cons_zero, List.set_cons_succ]
        refine held_skip (i := 39) rfl 49 rfl (by kernel_rfl) (by kernel_rfl) (by kernel_rfl) (fun _ _ _ h => h) (by rfl) hcur _ rfl ?_
        simp only [Act.put, List.setIfInBounds_toArray, List.set_cons_zero, List.set_cons_succ]
        refine held_skip (i := 40) rfl 50 rfl (by kernel_rfl) (by kernel_rfl) (by kernel_rfl) (fun _ _ _ h => h) (by rfl) hcur _ rfl ?_
        simp only [Act.put, List.setIfInBounds_toArray, List.set_cons_zero, List.set_cons_succ]
        refine held_skip (i := 41) rfl 51 rfl (by kernel_rfl) (by kernel_rfl) (by kernel_rfl) (fun _ _ _ h => h) (by rfl) hcur _ rfl ?_
        simp only [Act.put, List.setIfInBounds_toArray, List.set_cons_zero, List.set_cons_succ]
        refine held_skip (i := 42) rfl 52 rfl (by kernel_rfl) (by kernel_rfl) (by kernel_rfl) (fun _ _ _ h => h) (by rfl) hcur _ rfl ?_
        simp only [Act.put, List.setIfInBounds_toArray, List.set_cons_zero, List.set_cons_succ]
        refine held_skip (i := 43) rfl 53 rfl (by kernel_rfl) (by kernel_rfl) (by kernel_rfl) (fun _ _ _ h => h) (by rfl) hcur _ rfl ?_
        simp only [Act.put, List.setIfInBounds_toArray, List.set_cons_zero, List.set_cons_succ]
        refine held_skip (i := 44) rfl 54 rfl (by kernel_rfl) (by kernel_rfl) (by kernel_rfl) (fun _ _ _ h => h) (by rfl) hcur _ rfl ?_
        simp only [Act.put, List.setIfInBounds_toArray, List.set_cons_zero, List.set_cons_succ]
        refine tk 45 (.bool true) 55 rfl rfl hcur ?_
        refine wpAnyH_done (by kernel_rfl) ?_ _
        unfold NoPanic
        dsimp only
        have HZ := Lib.hid hbd
        clear hcur hbd heqw hzb
        go_wp2_with fail
        go_ret
        exact ⟨by rw [HR.out.2.1]; rfl, HZ.out⟩
      · have hdw : decide (y.w = 0) = false := decide_eq_false hw0
        have HDW := Lib.hid hdw
        have hnz : nzT y = true := by unfold nzT; exact decide_eq_true hw0
        clear hdw hw0
        by_cases h32 : (32 : Int) < (tw.size : Int)
        · have hno : okT nzT l k = false := by
            have h1 : ¬ y.nm.2.length ≤ 32 := by omega
            unfold okT
            rw [hgy, decide_eq_false h1]
            rfl
          have hres : wellT nzT l = false := wellT_no hlt hno
          have HR := Lib.hid (And.intro hb (And.intro hres (And.intro hwd hst)))
          clear hb hres hwd hst hall hk hlt hky oky hgy hrY htw hts hno hg hh hy hnz
          go_upto_region 4 with fail
          refine wp_region_noPanic (wp_region_held (S := fun U => U.rangeAt g (off + k * 35 + 33) vw.toList ∧ U.cell? ⟨g, off + k * 35 + 32, none⟩ = some (.string tw)) (by kernel_rfl) ?_)
          change wpAnyH _ _ _ _ _ 46 _ _ (World.drew wr)
          have hbd : Below w.heap.size w wr.drew := HR.out.1.drew
          generalize World.drew wr = wd at hbd ⊢
          have hcur := And.intro (HR.out.2.2.1 wd hbd) (HR.out.2.2.2 wd hbd)
          have hzb := HZB.out
          have heqw := HW.out.2
          rw [HDW.out] at heqw
          refine tk 0 (.slice (some ⟨g, off, none⟩) l.length c) 10 rfl rfl hcur ?_
          refine tk 1 (.int .i64 k) 11 rfl rfl hcur ?_
          refine tk 2 (.pointer (some ⟨g, off + k * 35, none⟩)) 12 rfl rfl hcur ?_ (by intro w' hS'; unfold execOp; simp [go_sem, m0, m1])
          refine tk 3 (.pointer (some ⟨g, off + k * 35 + 33, none⟩)) 13 rfl rfl hcur ?_
          refine tk 4 (.agg vw) 14 rfl rfl hcur ?_ (by intro w' hS'; exact exec_loadM 48 _ rfl _ _ rfl vw hS'.1 Tryz.underlying48 rfl HW.out.1)
          refine tk 5 (.agg #[.int .i64 0, .int .u64 0]) 15 rfl rfl hcur ?_ (by intro w' hS'; unfold execOp; simp [go_sem, hzb])
          refine tk 6 (.bool false) 16 rfl rfl hcur ?_ (by intro w' hS'; unfold execOp; simp [go_sem, heqw])
          refine tk 7 (.bool false) 17 rfl rfl hcur ?_
          refine tk 8 (.slice (some ⟨g, off, none⟩) l.length c) 18 rfl rfl hcur ?_
          refine tk 9 (.int .i64 k) 19 rfl rfl hcur ?_
          refine tk 10 (.pointer (some ⟨g, off + k * 35, none⟩)) 20 rfl rfl hcur ?_ (by intro w' hS'; unfold execOp; simp [go_sem, m0, m1])
          refine tk 11 (.pointer (some ⟨g, off + k * 35 + 32, none⟩)) 21 rfl rfl hcur ?_
          refine tk 12 (.string tw) 22 rfl rfl hcur ?_ (by intro w' hS'; have q := hS'.2; unfold execOp; simp [go_sem, q])
          refine tk 13 (.int .i64 tw.size) 23 rfl rfl hcur ?_
          refine tk 14 (.bool true) 24 rfl rfl hcur ?_ (by intro w' hS'; unfold execOp; simp [go_sem, h32])
          refine tk 15 (.bool true) 25 rfl rfl hcur ?_
          refine tk 16 (.bool true) 26 rfl rfl hcur ?_
          refine held_skip (i := 17) rfl 27 rfl (by kernel_rfl) (by kernel_rfl) (by kernel_rfl) (fun _ _ _ h => h) (by rfl) hcur _ rfl ?_
          simp only [Act.put, List.setIfInBounds_toArray, List.set_cons_zero, List.set_cons_succ]
          refine held_skip (i := 18) rfl 28 rfl (by kernel_rfl) (by kernel_rfl) (by kernel_rfl) (fun _ _ _ h => h) (by rfl) hcur _ rfl ?_
          simp only [Act.put, List.setIfInBounds_toArray, List.set_cons_zero, List.set_cons_succ]
          refine held_skip (i := 19) rfl 29 rfl (by kernel_rfl) (by kernel_rfl) (by kernel_rfl) (fun _ _ _ h => h) (by rfl) hcur _ rfl ?_
          simp only [Act.put, List.setIfInBounds_toArray, List.set_cons_zero, List.set_cons_succ]
          refine held_skip (i := 20) rfl 30 rfl (by kernel_rfl) (by kernel_rfl) (by kernel_rfl) (fun _ _ _ h => h) (by rfl) hcur _ rfl ?_
          simp only [Act.put, List.setIfInBounds_toArray, List.set_cons_zero, List.set_cons_succ]
          refine held_skip (i := 21) rfl 31 rfl (by kernel_rfl) (by kernel_rfl) (by kernel_rfl) (fun _ _ _ h => h) (by rfl) hcur _ rfl ?_
          simp only [Act.put, List.setIfInBounds_toArray, List.set_cons_zero, List.set_cons_succ]
          refine held_skip (i := 22) rfl 32 rfl (by kernel_rfl) (by kernel_rfl) (by kernel_rfl) (fun _ _ _ h => h) (by rfl) hcur _ rfl ?_
          simp only [Act.put, List.setIfInBounds_toArray, List.set_cons_zero, List.set_cons_succ]
          refine held_skip (i := 23) rfl 33 rfl (by kernel_rfl) (by kernel_rfl) (by kernel_rfl) (fun _ _ _ h => h) (by rfl) hcur _ rfl ?_
          simp only [Act.put, List.setIfInBounds_toArray, List.set_cons_zero, List.set_cons_succ]
          refine held_skip (i := 24) rfl 34 rfl (by kernel_rfl) (by kernel_rfl) (by kernel_rfl) (fun _ _ _ h => h) (by rfl) hcur _ rfl ?_
          simp only [Act.put, List.setIfInBounds_toArray, List.set_cons_zero, List.set_cons_succ]
          refine held_skip (i := 25) rfl 35 rfl (by kernel_rfl) (by kernel_rfl) (by kernel_rfl) (fun _ _ _ h => h) (by rfl) hcur _ rfl ?_
          simp only [Act.put, List.setIfInBounds_toArray, List.set_cons_zero, List.set_cons_succ]
          refine held_skip (i := 26) rfl 36 rfl (by kernel_rfl) (by kernel_rfl) (by kernel_rfl) (fun _ _ _ h => h) (by rfl) hcur _ rfl ?_
          simp only [Act.put, List.setIfInBounds_toArray, List.set_cons_zero, List.set_cons_succ]
          refine held_skip (i := 27) rfl 37 rfl (by kernel_rfl) (by kernel_rfl) (by kernel_rfl) (fun _ _ _ h => h) (by rfl) hcur _ rfl ?_
          simp only [Act.put, List.setIfInBounds_toArray, List.set_cons_zero, List.set_cons_succ]
          refine held_skip (i := 28) rfl 38 rfl (by kernel_rfl) (by kernel_rfl) (by kernel_rfl) (fun _ _ _ h => h) (by rfl) hcur _ rfl ?_
          simp only [Act.put, List.setIfInBounds_toArray, List.set_cons_zero, List.set_cons_succ]
          refine held_skip (i := 29) rfl 39 rfl (by kernel_rfl) (by kernel_rfl) (by kernel_rfl) (fun _ _ _ h => h) (by rfl) hcur _ rfl ?_
          simp only [Act.put, List.setIfInBounds_toArray, List.set_cons_zero, List.set_cons_succ]
          refine held_skip (i := 30) rfl 40 rfl (by kernel_rfl) (by kernel_rfl) (by kernel_rfl) (fun _ _ _ h => h) (by rfl) hcur _ rfl ?_
          simp only [Act.put, List.setIfInBounds_toArray, List.set_cons_zero, List.set_cons_succ]
          refine held_skip (i := 31) rfl 41 rfl (by kernel_rfl) (by kernel_rfl) (by kernel_rfl) (fun _ _ _ h => h) (by rfl) hcur _ rfl ?_
          simp only [Act.put, List.setIfInBounds_toArray, List.set_cons_zero, List.set_cons_succ]
          refine held_skip (i := 32) rfl 42 rfl (by kernel_rfl) (by kernel_rfl) (by kernel_rfl) (fun _ _ _ h => h) (by rfl) hcur _ rfl ?_
          simp only [Act.put, List.setIfInBounds_toArray, List.set_cons_zero, List.set_cons_succ]
          refine held_skip (i := 33) rfl 43 rfl (by kernel_rfl) (by kernel_rfl) (by kernel_rfl) (fun _ _ _ h => h) (by rfl) hcur _ rfl ?_
          simp only [Act.put, List.setIfInBounds_toArray, List.set_cons_zero, List.set_cons_succ]
          refine held_skip (i := 34) rfl 44 rfl (by kernel_rfl) (by kernel_rfl) (by kernel_rfl) (fun _ _ _ h => h) (by rfl) hcur _ rfl ?_
          simp only [Act.put, List.setIfInBounds_toArray, List.set_cons_zero, List.set_cons_succ]
          refine held_skip (i := 35) rfl 45 rfl (by kernel_rfl) (by kernel_rfl) (by kernel_rfl) (fun _ _ _ h => h) (by rfl) hcur _ rfl ?_
          simp only [Act.put, List.setIfInBounds_toArray, List.set_cons_zero, List.set_cons_succ]
          refine held_skip (i := 36) rfl 46 rfl (by kernel_rfl) (by kernel_rfl) (by kernel_rfl) (fun _ _ _ h => h) (by rfl) hcur _ rfl ?_
          simp only [Act.put, List.setIfInBounds_toArray, List.set_cons_zero, List.set_cons_succ]
          refine held_skip (i := 37) rfl 47 rfl (by kernel_rfl) (by kernel_rfl) (by kernel_rfl) (fun _ _ _ h => h) (by rfl) hcur _ rfl ?_
          simp only [Act.put, List.setIfInBounds_toArray, List.set_cons_zero, List.set_cons_succ]
          refine held_skip (i := 38) rfl 48 rfl (by kernel_rfl) (by kernel_rfl) (by kernel_rfl) (fun _ _ _ h => h) (by rfl) hcur _ rfl ?_
          simp only [Act.put, List.setIfInBounds_toArray, List.set_cons_zero, List.set_cons_succ]
          refine held_skip (i := 39) rfl 49 rfl (by kernel_rfl) (by kernel_rfl) (by kernel_rfl) (fun _ _ _ h => h) (by rfl) hcur _ rfl ?_
          simp only [Act.put, List.setIfInBounds_toArray, List.set_cons_zero, List.set_cons_succ]
          refine held_skip (i := 40) rfl 50 rfl (by kernel_rfl) (by kernel_rfl) (by kernel_rfl) (fun _ _ _ h => h) (by rfl) hcur _ rfl ?_
          simp only [Act.put, List.setIfInBounds_toArray, List.set_cons_zero, List.set_cons_succ]
          refine held_skip (i := 41) rfl 51 rfl (by kernel_rfl) (by kernel_rfl) (by kernel_rfl) (fun _ _ _ h => h) (by rfl) hcur _ rfl ?_
          simp only [Act.put, List.setIfInBounds_toArray, List.set_cons_zero, List.set_cons_succ]
          refine held_skip (i := 42) rfl 52 rfl (by kernel_rfl) (by kernel_rfl) (by kernel_rfl) (fun _ _ _ h => h) (by rfl) hcur _ rfl ?_
          simp only [Act.put, List.setIfInBounds_toArray, List.set_cons_zero, List.set_cons_succ]
          refine held_skip (i := 43) rfl 53 rfl (by kernel_rfl) (by kernel_rfl) (by kernel_rfl) (fun _ _ _ h => h) (by rfl) hcur _ rfl ?_
          simp only [Act.put, List.setIfInBounds_toArray, List.set_cons_zero, List.set_cons_succ]
          refine held_skip (i := 44) rfl 54 rfl (by kernel_rfl) (by kernel_rfl) (by kernel_rfl) (fun _ _ _ h => h) (by rfl) hcur _ rfl ?_
          simp only [Act.put, List.setIfInBounds_toArray, List.set_cons_zero, List.set_cons_succ]
          refine tk 45 (.bool true) 55 rfl rfl hcur ?_
          refine wpAnyH_done (by kernel_rfl) ?_ _
          unfold NoPanic
          dsimp only
          have HZ := Lib.hid hbd
          clear hcur hbd heqw hzb
          go_wp2_with fail
          go_ret
          exact ⟨by rw [HR.out.2.1]; rfl, HZ.out⟩
        · have h32n : y.nm.2.length ≤ 32 := by omega
          by_cases hk0 : k = 0
          · have hyes : okT nzT l k = true := by
              unfold okT
              rw [hgy, decide_eq_true h32n, hnz, hk0]
              rfl
            have HR := Lib.hid (And.intro hb (And.intro hyes (And.intro hwd (And.intro hst (And.intro hlt hall)))))
            clear hb hyes hwd hst hall hk hlt hky oky hgy hrY htw hts hg hh hy h32n hnz
            go_upto_region 4 with fail
            refine wp_region_noPanic (wp_region_held (S := fun U => U.rangeAt g (off + k * 35 + 33) vw.toList ∧ U.cell? ⟨g, off + k * 35 + 32, none⟩ = some (.string tw)) (by kernel_rfl) ?_)
            change wpAnyH _ _ _ _ _ 46 _ _ (World.drew wr)
            have hbd : Below w.heap.size w wr.drew := HR.out.1.drew
            generalize World.drew wr = wd at hbd ⊢
            have hcur := And.intro (HR.out.2.2.1 wd hbd) (HR.out.2.2.2.1 wd hbd)
            have hzb := HZB.out
            have heqw := HW.out.2
            rw [HDW.out] at heqw
            refine tk 0 (.slice (some ⟨g, off, none⟩) l.length c) 10 rfl rfl hcur ?_
            refine tk 1 (.int .i64 k) 11 rfl rfl hcur ?_
            refine tk 2 (.pointer (some ⟨g, off + k * 35, none⟩)) 12 rfl rfl hcur ?_ (by intro w' hS'; unfold execOp; simp [go_sem, m0, m1])
            refine tk 3 (.pointer (some ⟨g, off + k * 35 + 33, none⟩)) 13 rfl rfl hcur ?_
            refine tk 4 (.agg vw) 14 rfl rfl hcur ?_ (by intro w' hS'; exact exec_loadM 48 _ rfl _ _ rfl vw hS'.1 Tryz.underlying48 rfl HW.out.1)
            refine tk 5 (.agg #[.int .i64 0, .int .u64 0]) 15 rfl rfl hcur ?_ (by intro w' hS'; unfold execOp; simp [go_sem, hzb])
            refine tk 6 (.bool false) 16 rfl rfl hcur ?_ (by intro w' hS'; unfold execOp; simp [go_sem, heqw])
            refine tk 7 (.bool false) 17 rfl rfl hcur ?_
            refine tk 8 (.slice (some ⟨g, off, none⟩) l.length c) 18 rfl rfl hcur ?_
            refine tk 9 (.int .i64 k) 19 rfl rfl hcur ?_
            refine tk 10 (.pointer (some ⟨g, off + k * 35, none⟩)) 20 rfl rfl hcur ?_ (by intro w' hS'; unfold execOp; simp [go_sem, m0, m1])
            refine tk 11 (.pointer (some ⟨g, off + k * 35 + 32, none⟩)) 21 rfl rfl hcur ?_
            refine tk 12 (.string tw) 22 rfl rfl hcur ?_ (by intro w' hS'; have q := hS'.2; unfold execOp; simp [go_sem, q])
            refine tk 13 (.int .i64 tw.size) 23 rfl rfl hcur ?_
            refine tk 14 (.bool false) 24 rfl rfl hcur ?_ (by intro w' hS'; have q : decide ((32 : Int) < (tw.size : Int)) = false := decide_eq_false h32; unfold execOp; simp [go_sem, q])
            refine tk 15 (.bool false) 25 rfl rfl hcur ?_
            refine tk 16 (.bool false) 26 rfl rfl hcur ?_
            refine tk 17 (.int .i64 k) 27 rfl rfl hcur ?_
            refine tk 18 (.bool false) 28 rfl rfl hcur ?_ (by intro w' hS'; unfold execOp; simp [go_sem, hk0])
            refine tk 19 (.bool false) 29 rfl rfl hcur ?_
            refine held_skip (i := 20) rfl 30 rfl (by kernel_rfl) (by kernel_rfl) (by kernel_rfl) (fun _ _ _ h => h) (by rfl) hcur _ rfl ?_
            simp only [Act.put, List.setIfInBounds_toArray, List.set_cons_zero, List.set_cons_succ]
            refine held_skip (i := 21) rfl 31 rfl (by kernel_rfl) (by kernel_rfl) (by kernel_rfl) (fun _ _ _ h => h) (by rfl) hcur _ rfl ?_
            simp only [Act.put, List.setIfInBounds_toArray, List.set_cons_zero, List.set_cons_succ]
            refine held_skip (i := 22) rfl 32 rfl (by kernel_rfl) (by kernel_rfl) (by kernel_rfl) (fun _ _ _ h => h) (by rfl) hcur _ rfl ?_
            simp only [Act.put, List.setIfInBounds_toArray, List.set_cons_zero, List.set_cons_succ]
            refine held_skip (i := 23) rfl 33 rfl (by kernel_rfl) (by kernel_rfl) (by kernel_rfl) (fun _ _ _ h => h) (by rfl) hcur _ rfl ?_
            simp only [Act.put, List.setIfInBounds_toArray, List.set_cons_zero, List.set_cons_succ]
            refine held_skip (i := 24) rfl 34 rfl (by kernel_rfl) (by kernel_rfl) (by kernel_rfl) (fun _ _ _ h => h) (by rfl) hcur _ rfl ?_
            simp only [Act.put, List.setIfInBounds_toArray, List.set_cons_zero, List.set_cons_succ]
            refine held_skip (i := 25) rfl 35 rfl (by kernel_rfl) (by kernel_rfl) (by kernel_rfl) (fun _ _ _ h => h) (by rfl) hcur _ rfl ?_
            simp only [Act.put, List.setIfInBounds_toArray, List.set_cons_zero, List.set_cons_succ]
            refine held_skip (i := 26) rfl 36 rfl (by kernel_rfl) (by kernel_rfl) (by kernel_rfl) (fun _ _ _ h => h) (by rfl) hcur _ rfl ?_
            simp only [Act.put, List.setIfInBounds_toArray, List.set_cons_zero, List.set_cons_succ]
            refine held_skip (i := 27) rfl 37 rfl (by kernel_rfl) (by kernel_rfl) (by kernel_rfl) (fun _ _ _ h => h) (by rfl) hcur _ rfl ?_
            simp only [Act.put, List.setIfInBounds_toArray, List.set_cons_zero, List.set_cons_succ]
            refine held_skip (i := 28) rfl 38 rfl (by kernel_rfl) (by kernel_rfl) (by kernel_rfl) (fun _ _ _ h => h) (by rfl) hcur _ rfl ?_
            simp only [Act.put, List.setIfInBounds_toArray, List.set_cons_zero, List.set_cons_succ]
            refine held_skip (i := 29) rfl 39 rfl (by kernel_rfl) (by kernel_rfl) (by kernel_rfl) (fun _ _ _ h => h) (by rfl) hcur _ rfl ?_
            simp only [Act.put, List.setIfInBounds_toArray, List.set_cons_zero, List.set_cons_succ]
            refine held_skip (i := 30) rfl 40 rfl (by kernel_rfl) (by kernel_rfl) (by kernel_rfl) (fun _ _ _ h => h) (by rfl) hcur _ rfl ?_
            simp only [Act.put, List.setIfInBounds_toArray, List.set_cons_zero, List.set_cons_succ]
            refine held_skip (i := 31) rfl 41 rfl (by kernel_rfl) (by kernel_rfl) (by kernel_rfl) (fun _ _ _ h => h) (by rfl) hcur _ rfl ?_
            simp only [Act.put, List.setIfInBounds_toArray, List.set_cons_zero, List.set_cons_succ]
            refine held_skip (i := 32) rfl 42 rfl (by kernel_rfl) (by kernel_rfl) (by kernel_rfl) (fun _ _ _ h => h) (by rfl) hcur _ rfl ?_
            simp only [Act.put, List.setIfInBounds_toArray, List.set_cons_zero, List.set_cons_succ]
            refine held_skip (i := 33) rfl 43 rfl (by kernel_rfl) (by kernel_rfl) (by kernel_rfl) (fun _ _ _ h => h) (by rfl) hcur _ rfl ?_
            simp only [Act.put, List.setIfInBounds_toArray, List.set_cons_zero, List.set_cons_succ]
            refine held_skip (i := 34) rfl 44 rfl (by kernel_rfl) (by kernel_rfl) (by kernel_rfl) (fun _ _ _ h => h) (by rfl) hcur _ rfl ?_
            simp only [Act.put, List.setIfInBounds_toArray, List.set_cons_zero, List.set_cons_succ]
            refine held_skip (i := 35) rfl 45 rfl (by kernel_rfl) (by kernel_rfl) (by kernel_rfl) (fun _ _ _ h => h) (by rfl) hcur _ rfl ?_
            simp only [Act.put, List.setIfInBounds_toArray, List.set_cons_zero, List.set_cons_succ]
            refine held_skip (i := 36) rfl 46 rfl (by kernel_rfl) (by kernel_rfl) (by kernel_rfl) (fun _ _ _ h => h) (by rfl) hcur _ rfl ?_
            simp only [Act.put, List.setIfInBounds_toArray, List.set_cons_zero, List.set_cons_succ]
            refine held_skip (i := 37) rfl 47 rfl (by kernel_rfl) (by kernel_rfl) (by kernel_rfl) (fun _ _ _ h => h) (by rfl) hcur _ rfl ?_
            simp only [Act.put, List.setIfInBounds_toArray, List.set_cons_zero, List.set_cons_succ]
            refine held_skip (i := 38) rfl 48 rfl (by kernel_rfl) (by kernel_rfl) (by kernel_rfl) (fun _ _ _ h => h) (by rfl) hcur _ rfl ?_
            simp only [Act.put, List.setIfInBounds_toArray, List.set_cons_zero, List.set_cons_succ]
            refine held_skip (i := 39) rfl 49 rfl (by kernel_rfl) (by kernel_rfl) (by kernel_rfl) (fun _ _ _ h => h) (by rfl) hcur _ rfl ?_
            simp only [Act.put, List.setIfInBounds_toArray, List.set_cons_zero, List.set_cons_succ]
            refine held_skip (i := 40) rfl 50 rfl (by kernel_rfl) (by kernel_rfl) (by kernel_rfl) (fun _ _ _ h => h) (by rfl) hcur _ rfl ?_
            simp only [Act.put, List.setIfInBounds_toArray, List.set_cons_zero, List.set_cons_succ]
            refine held_skip (i := 41) rfl 51 rfl (by kernel_rfl) (by kernel_rfl) (by kernel_rfl) (fun _ _ _ h => h) (by rfl) hcur _ rfl ?_
            simp only [Act.put, List.setIfInBounds_toArray, List.set_cons_zero, List.set_cons_succ]
            refine held_skip (i := 42) rfl 52 rfl (by kernel_rfl) (by kernel_rfl) (by kernel_rfl) (fun _ _ _ h => h) (by rfl) hcur _ rfl ?_
            simp only [Act.put, List.setIfInBounds_toArray, List.set_cons_zero, List.set_cons_succ]
            refine held_skip (i := 43) rfl 53 rfl (by kernel_rfl) (by kernel_rfl) (by kernel_rfl) (fun _ _ _ h => h) (by rfl) hcur _ rfl ?_
            simp only [Act.put, List.setIfInBounds_toArray, List.set_cons_zero, List.set_cons_succ]
            refine tk 44 (.bool false) 54 rfl rfl hcur ?_
            refine tk 45 (.bool false) 55 rfl rfl hcur ?_
            refine wpAnyH_done (by kernel_rfl) ?_ _
            unfold NoPanic
            dsimp only
            have HZ := Lib.hid hbd
            clear hk0 hcur hbd heqw hzb
            go_wp2_with fail
            have e1 : (k : Int) + 1 = ((k + 1 : Nat) : Int) := by omega
            rw [e1]
            refine ⟨⟨k + 1, HR.out.2.2.2.2.1, rfl, fun i hi => ?_, HZ.out⟩, ?_⟩
            · rcases Nat.lt_or_eq_of_le (Nat.le_of_lt_succ hi) with h | h
              · exact HR.out.2.2.2.2.2 i h
              · rw [h]; exact HR.out.2.1
            · have h := HR.out.2.2.2.2.1
              show l.length - (k + 1) < l.length - k
              omega
          · obtain ⟨kp, hkp⟩ : ∃ kp, kp = k - 1 := ⟨_, rfl⟩
            have hkp1 : k = kp + 1 := by omega
            have n1 : (kp : Int) < (l.length : Int) := by omega
            have n0 : (0 : Int) ≤ (kp : Int) := by omega
            have hkg : 0 < k := by omega
            have hw1 : IntKind.i64.wrap ((k : Int) - 1) = (kp : Int) := by rw [IntKind.wrap_i64]; omega
            obtain ⟨x, hx⟩ : ∃ x, x = l[kp]'(by omega) := ⟨_, rfl⟩
            have hkx : l[kp]? = some x := by rw [hx, List.getElem?_eq_getElem (by omega)]
            have okx := H.out.2.1 x (List.mem_of_getElem? hkx)
            have hgx := getD_ofT hkx
            have hrX : ∀ U, Below w.heap.size w U → U.rangeAt g (off + kp * 35) (toC x).toList := fun U hU => (hh.below hU hg) kp x hkx
            obtain ⟨pv, hpv⟩ : ∃ v, v = B8 x.nm.1 := ⟨_, rfl⟩
            obtain ⟨tv, htv⟩ : ∃ v, v = txt x.nm.2 := ⟨_, rfl⟩
            obtain ⟨pw, hpw⟩ : ∃ v, v = B8 y.nm.1 := ⟨_, rfl⟩
            obtain ⟨z, hz⟩ : ∃ z, z = cN x.nm y.nm := ⟨_, rfl⟩
            have hord : ∀ U, Calls Tryz.prog 82 #[.agg pv, .string tv, .agg pw, .string tw] U fun e w' => e = .returned (.int .i64 z) ∧ Below U.heap.size U w' := fun U => by
              rw [hpv, htv, hpw, htw, hz]; exact rorder_any U x.nm y.nm okx.1 oky.1
            have hsz1 : (Tryz.prog.info? 26).map (·.size) = some pv.size := by rw [hpv, B8_size, okx.1]; exact info_hash
            have hsz2 : (Tryz.prog.info? 26).map (·.size) = some pw.size := by rw [hpw, B8_size, oky.1]; exact info_hash
            have hS0 : ∀ U, Below w.heap.size w U → U.rangeAt g (off + k * 35 + 33) vw.toList ∧ U.cell? ⟨g, off + k * 35 + 32, none⟩ = some (.string tw) ∧ U.rangeAt g (off + kp * 35) pv.toList ∧ U.cell? ⟨g, off + kp * 35 + 32, none⟩ = some (.string tv) ∧ U.rangeAt g (off + k * 35) pw.toList := fun U hU => by
              rw [hpv, htv, hpw]
              exact ⟨hwd U hU, hst U hU, toC_pol okx.1 (hrX U hU), toC_str okx.1 (hrX U hU), toC_pol oky.1 (hrY U hU)⟩
            have hok : okT nzT l k = decide (z < 0) := by
              unfold okT
              have e1 : k - 1 = kp := by omega
              have e2 : (k == 0) = false := by simpa using hk0
              rw [hgy, e1, hgx, decide_eq_true h32n, e2, ← hz, hnz]
              simp
            have HR := Lib.hid (And.intro hb (And.intro hok (And.intro hS0 (And.intro hlt (And.intro hall (And.intro hord (And.intro hsz1 hsz2)))))))
            clear hb hok hS0 hlt hall hord hsz1 hsz2 hst hwd hk hky oky hgy hrY htw hts hg hh hy h32n hk0 hkp hkp1 hx hkx okx hgx hrX hpv htv hpw hz hnz
            go_upto_region 4 with fail
            refine wp_region_noPanic (wp_region_held (S := fun U => U.rangeAt g (off + k * 35 + 33) vw.toList ∧ U.cell? ⟨g, off + k * 35 + 32, none⟩ = some (.string tw) ∧ U.rangeAt g (off + kp * 35) pv.toList ∧ U.cell? ⟨g, off + kp * 35 + 32, none⟩ = some (.string tv) ∧ U.rangeAt g (off + k * 35) pw.toList) (by kernel_rfl) ?_)
            change wpAnyH _ _ _ _ _ 46 _ _ (World.drew wr)
            have hbd : Below w.heap.size w wr.drew := HR.out.1.drew
            generalize World.drew wr = wd at hbd ⊢
            have hcur := HR.out.2.2.1 wd hbd
            have hzb := HZB.out
            have heqw := HW.out.2
            rw [HDW.out] at heqw
            refine tk 0 (.slice (some ⟨g, off, none⟩) l.length c) 10 rfl rfl hcur ?_
            refine tk 1 (.int .i64 k) 11 rfl rfl hcur ?_
            refine tk 2 (.pointer (some ⟨g, off + k * 35, none⟩)) 12 rfl rfl hcur ?_ (by intro w' hS'; unfold execOp; simp [go_sem, m0, m1])
            refine tk 3 (.pointer (some ⟨g, off + k * 35 + 33, none⟩)) 13 rfl rfl hcur ?_
            refine tk 4 (.agg vw) 14 rfl rfl hcur ?_ (by intro w' hS'; exact exec_loadM 48 _ rfl _ _ rfl vw hS'.1 Tryz.underlying48 rfl HW.out.1)
            refine tk 5 (.agg #[.int .i64 0, .int .u64 0]) 15 rfl rfl hcur ?_ (by intro w' hS'; unfold execOp; simp [go_sem, hzb])
            refine tk 6 (.bool false) 16 rfl rfl hcur ?_ (by intro w' hS'; unfold execOp; simp [go_sem, heqw])
            refine tk 7 (.bool false) 17 rfl rfl hcur ?_
            refine tk 8 (.slice (some ⟨g, off, none⟩) l.length c) 18 rfl rfl hcur ?_
            refine tk 9 (.int .i64 k) 19 rfl rfl hcur ?_
            refine tk 10 (.pointer (some ⟨g, off + k * 35, none⟩)) 20 rfl rfl hcur ?_ (by intro w' hS'; unfold execOp; simp [go_sem, m0, m1])
            refine tk 11 (.pointer (some ⟨g, off + k * 35 + 32, none⟩)) 21 rfl rfl hcur ?_
            refine tk 12 (.string tw) 22 rfl rfl hcur ?_ (by intro w' hS'; have q := hS'.2.1; unfold execOp; simp [go_sem, q])
            refine tk 13 (.int .i64 tw.size) 23 rfl rfl hcur ?_
            refine tk 14 (.bool false) 24 rfl rfl hcur ?_ (by intro w' hS'; have q : decide ((32 : Int) < (tw.size : Int)) = false := decide_eq_false h32; unfold execOp; simp [go_sem, q])
            refine tk 15 (.bool false) 25 rfl rfl hcur ?_
            refine tk 16 (.bool false) 26 rfl rfl hcur ?_
            refine tk 17 (.int .i64 k) 27 rfl rfl hcur ?_
            refine tk 18 (.bool true) 28 rfl rfl hcur ?_ (by intro w' hS'; unfold execOp; simp [go_sem, hkg])
            refine tk 19 (.bool true) 29 rfl rfl hcur ?_
            refine tk 20 (.slice (some ⟨g, off, none⟩) l.length c) 30 rfl rfl hcur ?_
            refine tk 21 (.int .i64 k) 31 rfl rfl hcur ?_
            refine tk 22 (.int .i64 kp) 32 rfl rfl hcur ?_ (by intro w' hS'; unfold execOp; simp [go_sem, hw1])
            refine tk 23 (.pointer (some ⟨g, off + kp * 35, none⟩)) 33 rfl rfl hcur ?_ (by intro w' hS'; unfold execOp; simp [go_sem, n0, n1])
            refine tk 24 (.pointer (some ⟨g, off + kp * 35, none⟩)) 34 rfl rfl hcur ?_
            refine tk 25 (.agg pv) 35 rfl rfl hcur ?_ (by intro w' hS'; exact exec_loadM 26 _ rfl _ _ rfl pv hS'.2.2.1 Tryz.underlying26 rfl HR.out.2.2.2.2.2.2.1)
            refine tk 26 (.slice (some ⟨g, off, none⟩) l.length c) 36 rfl rfl hcur ?_
            refine tk 27 (.int .i64 k) 37 rfl rfl hcur ?_
            refine tk 28 (.int .i64 kp) 38 rfl rfl hcur ?_ (by intro w' hS'; unfold execOp; simp [go_sem, hw1])
            refine tk 29 (.pointer (some ⟨g, off + kp * 35, none⟩)) 39 rfl rfl hcur ?_ (by intro w' hS'; unfold execOp; simp [go_sem, n0, n1])
            refine tk 30 (.pointer (some ⟨g, off + kp * 35 + 32, none⟩)) 40 rfl rfl hcur ?_
            refine tk 31 (.string tv) 41 rfl rfl hcur ?_ (by intro w' hS'; have q := hS'.2.2.2.1; unfold execOp; simp [go_sem, q])
            refine tk 32 (.slice (some ⟨g, off, none⟩) l.length c) 42 rfl rfl hcur ?_
            refine tk 33 (.int .i64 k) 43 rfl rfl hcur ?_
            refine tk 34 (.pointer (some ⟨g, off + k * 35, none⟩)) 44 rfl rfl hcur ?_ (by intro w' hS'; unfold execOp; simp [go_sem, m0, m1])
            refine tk 35 (.pointer (some ⟨g, off + k * 35, none⟩)) 45 rfl rfl hcur ?_
            refine tk 36 (.agg pw) 46 rfl rfl hcur ?_ (by intro w' hS'; exact exec_loadM 26 _ rfl _ _ rfl pw hS'.2.2.2.2 Tryz.underlying26 rfl HR.out.2.2.2.2.2.2.2)
            refine tk 37 (.slice (some ⟨g, off, none⟩) l.length c) 47 rfl rfl hcur ?_
            refine tk 38 (.int .i64 k) 48 rfl rfl hcur ?_
            refine tk 39 (.pointer (some ⟨g, off + k * 35, none⟩)) 49 rfl rfl hcur ?_ (by intro w' hS'; unfold execOp; simp [go_sem, m0, m1])
            refine tk 40 (.pointer (some ⟨g, off + k * 35 + 32, none⟩)) 50 rfl rfl hcur ?_
            refine tk 41 (.string tw) 51 rfl rfl hcur ?_ (by intro w' hS'; have q := hS'.2.1; unfold execOp; simp [go_sem, q])
            refine held_one (i := 42) (by kernel_rfl) _ rfl (wpOp_callG rfl (by rfl) 52 rfl 82 #[.agg pv, .string tv, .agg pw, .string tw] (by unfold execOp; simp [go_sem]) _ (ret_of (HR.out.2.2.2.2.2.1 _)) ?_)
            rintro v1 w1 ⟨rfl, hb1⟩
            have hb2 := hbd.trans (hb1.mono hbd.size)
            have hcur := HR.out.2.2.1 w1 hb2
            refine ⟨hcur, ?_⟩
            simp only [Act.put, List.setIfInBounds_toArray, List.set_cons_zero, List.set_cons_succ]
            obtain ⟨bz, hbz⟩ : ∃ b, b = decide ((0 : Int) ≤ z) := ⟨_, rfl⟩
            refine tk 43 (.bool bz) 53 rfl rfl hcur ?_ (by intro w' hS'; have q : decide ((0 : Int) ≤ z) = bz := hbz.symm; unfold execOp; simp [go_sem, q])
            refine tk 44 (.bool bz) 54 rfl rfl hcur ?_
            refine tk 45 (.bool bz) 55 rfl rfl hcur ?_
            refine wpAnyH_done (by kernel_rfl) ?_ _
            unfold NoPanic
            dsimp only
            have HZ := Lib.hid (And.intro hb2 hbz)
            clear hcur hb1 hb2 hbd hbz heqw hzb
            cases bz with
            | true =>
              have hz0 : ¬ z < 0 := by have := of_decide_eq_true HZ.out.2.symm; omega
              have hres : wellT nzT l = false := wellT_no HR.out.2.2.2.1 (by rw [HR.out.2.1, decide_eq_false hz0])
              have HE := Lib.hid hres
              clear hz0 hres
              go_wp2_with fail
              go_ret
              exact ⟨by rw [HE.out]; rfl, HZ.out.1⟩
            | false =>
              have hz0 : z < 0 := by have := of_decide_eq_false HZ.out.2.symm; omega
              have hyes : okT nzT l k = true := by rw [HR.out.2.1, decide_eq_true hz0]
              have HE := Lib.hid hyes
              clear hz0 hyes
              go_wp2_with fail
              have e1 : (k : Int) + 1 = ((k + 1 : Nat) : Int) := by omega
              rw [e1]
              refine ⟨⟨k + 1, HR.out.2.2.2.1, rfl, fun i hi => ?_, HZ.out.1⟩, ?_⟩
              · rcases Nat.lt_or_eq_of_le (Nat.le_of_lt_succ hi) with h | h
                · exact HR.out.2.2.2.2.1 i h
                · rw [h]; exact HE.out
              · have h := HR.out.2.2.2.1
                show l.length - (k + 1) < l.length - k
                omega
    · have m1 : ¬ (k : Int) < (l.length : Int) := by omega
      have e1 : k = l.length := by omega
      rw [e1] at hall
      have hres : wellT nzT l = true := wellT_yes hall
      have HE := Lib.hid (And.intro hres hb)
      clear hres hb hall hk hlt e1
      go_wp2_with fail
      go_ret
      exact ⟨by rw [HE.out.1]; rfl, HE.out.2⟩
end Go.Proofs.YtjngghihciimjaaGreat
