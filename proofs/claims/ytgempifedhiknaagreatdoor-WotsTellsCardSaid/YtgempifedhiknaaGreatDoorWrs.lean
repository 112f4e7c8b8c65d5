/-
  The document's own signature (15).
-/
import Derived.Test.YtgempifedhiknaaGreatDoorWrw
namespace Go.Proofs.YtgempifedhiknaaGreatDoor
set_option maxRecDepth 100000
open Go.RowKit Go.Shelf Sha

section
variable {P : Program} {ops : Array Oper} {Q : Exit → Act → World → Prop} {md : Region.Mode} {S : World → Prop}
theorem held_two {i j : Nat} {fuel : Nat} {listed : Array Bool} {a : Act} {w : World} (hr : Region.ready md ops listed = [i, j]) (l1 l2 : Array Bool) (h1 : listed.setIfInBounds i true = l1) (h2 : listed.setIfInBounds j true = l2)
    (k1 : wpOp P ops Q i (fun a' w' => S w' ∧ wpAnyH P md ops Q S fuel l1 a' w') a w) (k2 : wpOp P ops Q j (fun a' w' => S w' ∧ wpAnyH P md ops Q S fuel l2 a' w') a w) : wpAnyH P md ops Q S (fuel + 1) listed a w := by
  subst h1 h2
  refine wpAnyH_all hr (by simp) ?_
  intro x hx
  simp only [List.mem_cons, List.not_mem_nil, or_false] at hx
  rcases hx with rfl | rfl
  · exact k1
  · exact k2
end
theorem wpOp_store22 {ops : Array Oper} {Q : Exit → Act → World → Prop} {i : Nat} {o : Oper} {a : Act} {w : World} {K : Act → World → Prop} (hi : ops[i]? = some o) (hg : o.guard = none) (hd : o.dst = none) (x y : Operand) (ho : o.op = .store 26 x y) (ad : Addr) (hx : a.eval x = .pointer (some ad))
    (g : Addr) (n c : Nat) (hy : a.eval y = .slice (some g) n c) (old : Value) (c4 : w.cell? ad = some old) (f4 : w.frozen? ad = false) (h : K a (w.setCell ad (.slice (some g) n c))) : wpOp Tryz.prog ops Q i K a w := by
  refine wpOp_wp hi hg (wp_store22 x y ho ad hx g n c hy old c4 f4 ?_)
  rw [hd]
  exact h
/-- The hashes of the first k chains. -/
def sigTo (xs m : List UInt8) (k : Nat) : List UInt8 := (List.range k).flatMap (sigH xs m)
theorem sigTo_succ (xs m : List UInt8) (k : Nat) : sigTo xs m (k + 1) = sigTo xs m k ++ sigH xs m k := by simp [sigTo, List.range_succ]
/-- What holds throughout: what was there at the call's beginning, and all but one block of what was made ahead of the loop. -/
def SSr (w w2 : World) (s5 : Nat) (V : World) : Prop := Below w.heap.size w V ∧ KB w2.heap.size s5 w2 V
set_option maxRecDepth 100000 in
set_option maxHeartbeats 2000000 in
theorem rsign_any (w : World) (pa : Option Addr) (xs : List UInt8) (pc : Nat) (m : List UInt8) (hm : m.length = 32) (hx : xs.length ≤ 900000) (hg : Good w ⟨pa, xs, pc⟩) (hn : pa = none → pc = 0) :
    Calls Tryz.prog 7 #[.slice pa xs.length pc, .agg (B8 m)] w fun e w' => ∃ v, e = .returned (.agg #[v]) ∧ RowH w.heap.size 35 (signL xs m) v w' ∧ Below w.heap.size w w' := by
  obtain ⟨mv, hmv⟩ : ∃ mv, mv = B8 m := ⟨_, rfl⟩
  have hms : mv.size = 32 := by rw [hmv, B8_size, hm]
  rw [← hmv]
  have HM := Lib.hid (And.intro hmv (And.intro hms hm))
  have HG := Lib.hid (And.intro hx (And.intro hg hn))
  clear hmv hms hm hx hg hn
  go_enter Tryz.func7, Tryz.ntmps7
  go_upto_region 2 with fail
  have hA : Lies (((w.alloc (.cells mv 24)).alloc (.cells #[.slice none 0 0] 28)).alloc (.cells #[.slice none 0 0] 28)) w.heap.size mv 24 := ((Lies.new _ _ _).alloc _).alloc _
  have hB : Lies (((w.alloc (.cells mv 24)).alloc (.cells #[.slice none 0 0] 28)).alloc (.cells #[.slice none 0 0] 28)) (w.heap.size + 1) #[.slice none 0 0] 28 := by
    have := (Lies.new (w.alloc (.cells mv 24)) #[.slice none 0 0] 28).alloc (.cells #[.slice none 0 0] 28)
    simpa using this
  have hC : Lies (((w.alloc (.cells mv 24)).alloc (.cells #[.slice none 0 0] 28)).alloc (.cells #[.slice none 0 0] 28)) (w.heap.size + 1 + 1) #[.slice none 0 0] 28 := by
    have := Lies.new ((w.alloc (.cells mv 24)).alloc (.cells #[.slice none 0 0] 28)) #[.slice none 0 0] 28
    simpa using this
  have hb0 : Below w.heap.size w (((w.alloc (.cells mv 24)).alloc (.cells #[.slice none 0 0] 28)).alloc (.cells #[.slice none 0 0] 28)) := (((Below.refl _ _).alloc (Nat.le_refl _) _).alloc (by simp) _).alloc (by simp; omega) _
  have H0 := Lib.hid (And.intro hA (And.intro hB (And.intro hC hb0)))
  clear hA hB hC hb0
  generalize ((w.alloc (.cells mv 24)).alloc (.cells #[.slice none 0 0] 28)).alloc (.cells #[.slice none 0 0] 28) = W0 at H0 ⊢
  go_wp2_with (refine wpList_load_row rfl 24 _ rfl w.heap.size rfl 24 _ (0, 0) _ H0.out.1 Tryz.underlying24 rfl (by rw [HM.out.2.1]; kernel_rfl) ?_)
  have hdg := rdig_any m HM.out.2.2 W0
  rw [← HM.out.1] at hdg
  refine hdg.mono ?_
  rintro e w2 ⟨v2, rfl, ⟨g2, c2, rfl, hc2, hints⟩, hb2⟩
  have hl2 := H0.out.2.2.1.below hb2 H0.out.2.2.1.lt
  have hr2 := H0.out.2.1.below hb2 H0.out.2.1.lt
  have hbw := H0.out.2.2.2.trans (hb2.mono H0.out.2.2.2.size)
  obtain ⟨s5, hs5⟩ : ∃ s5, s5 = w.heap.size + 1 + 1 := ⟨_, rfl⟩
  obtain ⟨s4, hs4⟩ : ∃ s4, s4 = w.heap.size + 1 := ⟨_, rfl⟩
  rw [← hs5] at hl2 ⊢
  rw [← hs4] at hr2 ⊢
  have hgne : g2 ≠ s5 := fun e => by
    have h1 := hints.2 0 (by omega)
    have h2 := hl2.cell 0 (v := .slice none 0 0) rfl
    rw [e, h2] at h1
    cases h1
  have hs5lt := hl2.lt
  have hs4lt := hr2.lt
  have HS5 := Lib.hid (And.intro (show w.heap.size ≤ s5 by omega) hs5lt)
  have HS4 := Lib.hid (show s4 < w2.heap.size ∧ s4 ≠ s5 ∧ w.heap.size ≤ s4 by exact ⟨hs4lt, by omega, by omega⟩)
  have HIN := Lib.hid (show ∀ V, SSr w w2 s5 V → ∀ i, i < 35 → V.cell? ⟨g2, i, none⟩ = some (.int .i64 (digit m i)) from fun V hV i hi => (hV.2.cell ⟨g2, i, none⟩ hints.1 hgne).trans (hints.2 i hi))
  have HSZ := Lib.hid (show ∀ V, SSr w w2 s5 V → w2.heap.size ≤ V.heap.size from fun V hV => hV.2.1)
  have HSB := Lib.hid (show ∀ V V' : World, SSr w w2 s5 V → Below V.heap.size V V' → SSr w w2 s5 V' from fun V V' h hb => ⟨h.1.trans (hb.mono h.1.size), h.2.trans (KB.below hb h.2.1)⟩)
  have HSA := Lib.hid (show ∀ (V : World) (o : Obj), SSr w w2 s5 V → SSr w w2 s5 (V.alloc o) from fun V o h => HSB.out V _ h ((Below.refl _ _).alloc (Nat.le_refl _) _))
  have HSG := Lib.hid (show ∀ (V V' : World) (u : Value), SSr w w2 s5 V → V.grownBy V' u.ownBlock → (∀ x, u.ownBlock = some x → w2.heap.size ≤ x) → SSr w w2 s5 V' from fun V V' u h hg hx =>
    ⟨h.1.grown hg h.1.size (fun j e => Nat.le_trans hbw.size (hx j e)), Nat.le_trans h.2.1 hg.size, fun k hk hne => (hg.block k (Nat.lt_of_lt_of_le hk h.2.1) (fun e => by have := hx k e.symm; omega)).trans (h.2.2 k hk hne)⟩)
  have HSC := Lib.hid (show ∀ (V : World) (u : Value), SSr w w2 s5 V → SSr w w2 s5 (V.setCell ⟨s5, 0, none⟩ u) from fun V u h =>
    ⟨h.1.setCell (p := ⟨s5, 0, none⟩) HS5.out.1 u, by rw [size_set]; exact h.2.1, fun k hk hne => (heap_setCell_other V _ k u (fun e => hne e)).trans (h.2.2 k hk hne)⟩)
  have HGD := Lib.hid (show ∀ V, SSr w w2 s5 V → Good V ⟨pa, xs, pc⟩ from fun V hV => HG.out.2.1.below hV.1)
  have hss2 : SSr w w2 s5 w2 := ⟨hbw, KB.refl _ _ _⟩
  have H2 := Lib.hid (And.intro hss2 (And.intro hl2 hr2))
  clear hdg hints hb2 hl2 hr2 hbw hs5 hs4 hgne hs5lt hs4lt hss2 hc2
  go_wp2_with fail
  go_loopw [7] (fun i W => ∃ k : Nat, k ≤ 35 ∧ i = .int .i64 k ∧ ∃ u, SSr w w2 s5 W ∧ Lies W s5 #[u] 28 ∧ RowH w2.heap.size k (sigTo xs m k) u W) (fun i _ => 35 - (intOf i).toNat)
  case atStart => exact ⟨0, by omega, rfl, _, H2.out.1, H2.out.2.1, RowH.nil _ _⟩
  case round =>
    obtain ⟨k, hk, rfl, u, hss, hl, hr⟩ := hrel
    by_cases hlt : k < 35
    · have m1 : (k : Int) < 35 := by omega
      have m0 : (0 : Int) ≤ (k : Int) := by omega
      obtain ⟨d, hd⟩ : ∃ d, d = digit m k := ⟨_, rfl⟩
      have hd15 : d ≤ 15 := by rw [hd]; exact digit_le m k
      obtain ⟨hN, hhN⟩ : ∃ h, h = atH xs k d := ⟨_, rfl⟩
      have hNl : hN.length = 32 := by rw [hhN]; exact atH_length _ _ _
      have hNs : hN = sigH xs m k := by rw [hhN, hd]; rfl
      have hcall := rat_any wr.drew pa xs pc k d (by omega) hd15 HG.out.1 (HGD.out wr.drew ⟨hss.1.drew, hss.2⟩) HG.out.2.2
      rw [← hhN] at hcall
      have HR := Lib.hid (And.intro hss (And.intro hl (And.intro hlt (And.intro hd (And.intro hr (And.intro hNs hNl))))))
      have HCALL := Lib.hid hcall
      clear hss hl hr hlt hk hd hd15 hhN hNl hNs hcall
      go_upto_region 6 with fail
      refine wp_region_held (S := SSr w w2 s5) (by kernel_rfl) ?_
      change wpAnyH _ _ _ _ _ 13 _ _ (World.drew wr)
      have hcur : SSr w w2 s5 wr.drew := ⟨HR.out.1.1.drew, HR.out.1.2⟩
      have hcall := HCALL.out
      have hl0 : Lies wr.drew s5 #[u] 28 := HR.out.2.1
      have hrow0 : RowH w2.heap.size k (sigTo xs m k) u wr.drew := HR.out.2.2.2.2.1
      refine held_take (i := 0) (v := .pointer (some ⟨s5, 0, none⟩)) rfl 14 rfl (by kernel_rfl) (by kernel_rfl) (by kernel_rfl) (fun _ _ _ h => h) (by rfl) (by intro w' hS'; unfold execOp; simp [go_sem]) hcur _ rfl ?_
      simp only [Act.put, List.setIfInBounds_toArray, List.set_cons_zero, List.set_cons_succ]
      refine held_take (i := 2) (v := .slice pa xs.length pc) rfl 16 rfl (by kernel_rfl) (by kernel_rfl) (by kernel_rfl) (fun _ _ _ h => h) (by rfl) (by intro w' hS'; unfold execOp; simp [go_sem]) hcur _ rfl ?_
      simp only [Act.put, List.setIfInBounds_toArray, List.set_cons_zero, List.set_cons_succ]
      refine held_take (i := 3) (v := .int .i64 k) rfl 17 rfl (by kernel_rfl) (by kernel_rfl) (by kernel_rfl) (fun _ _ _ h => h) (by rfl) (by intro w' hS'; unfold execOp; simp [go_sem]) hcur _ rfl ?_
      simp only [Act.put, List.setIfInBounds_toArray, List.set_cons_zero, List.set_cons_succ]
      refine held_take (i := 4) (v := .slice (some ⟨g2, 0, none⟩) 35 c2) rfl 18 rfl (by kernel_rfl) (by kernel_rfl) (by kernel_rfl) (fun _ _ _ h => h) (by rfl) (by intro w' hS'; unfold execOp; simp [go_sem]) hcur _ rfl ?_
      simp only [Act.put, List.setIfInBounds_toArray, List.set_cons_zero, List.set_cons_succ]
      refine held_take (i := 5) (v := .int .i64 k) rfl 19 rfl (by kernel_rfl) (by kernel_rfl) (by kernel_rfl) (fun _ _ _ h => h) (by rfl) (by intro w' hS'; unfold execOp; simp [go_sem]) hcur _ rfl ?_
      simp only [Act.put, List.setIfInBounds_toArray, List.set_cons_zero, List.set_cons_succ]
      refine held_take (i := 6) (v := .pointer (some ⟨g2, k, none⟩)) rfl 20 rfl (by kernel_rfl) (by kernel_rfl) (by kernel_rfl) (fun _ _ _ h => h) (by rfl) (by intro w' hS'; unfold execOp; simp [go_sem, m0, m1]) hcur _ rfl ?_
      simp only [Act.put, List.setIfInBounds_toArray, List.set_cons_zero, List.set_cons_succ]
      refine held_take (i := 7) (v := .int .i64 d) rfl 21 rfl (by kernel_rfl) (by kernel_rfl) (by kernel_rfl) (fun _ _ _ h => h) (by rfl) (by intro w' hS'; have h1 := HIN.out _ hS' k HR.out.2.2.1; rw [← HR.out.2.2.2.1] at h1; unfold execOp; simp [go_sem, h1]) hcur _ rfl ?_
      simp only [Act.put, List.setIfInBounds_toArray, List.set_cons_zero, List.set_cons_succ]
      refine held_two (i := 1) (j := 8) (by kernel_rfl) _ _ rfl rfl (wpOp_valueTo rfl rfl 15 rfl (v := u) (by have h1 := (hl0).cell 0 (v := u) rfl; unfold execOp; simp [go_sem, h1]) ⟨hcur, ?_⟩) (wpOp_callTo rfl rfl 22 rfl 20 #[.slice pa xs.length pc, .int .i64 k, .int .i64 d] (by unfold execOp; simp [go_sem]) (fun v w' => v = .agg (B8 hN) ∧ Below wr.drew.heap.size wr.drew w') (hcall.mono fun e w' hh => ⟨_, hh.1, rfl, hh.2⟩) ?_)
      · simp only [Act.put, List.setIfInBounds_toArray, List.set_cons_zero, List.set_cons_succ]
        refine held_one (i := 8) (by kernel_rfl) _ rfl (wpOp_callTo rfl rfl 22 rfl 20 #[.slice pa xs.length pc, .int .i64 k, .int .i64 d] (by unfold execOp; simp [go_sem]) (fun v w' => v = .agg (B8 hN) ∧ Below wr.drew.heap.size wr.drew w') (hcall.mono fun e w' hh => ⟨_, hh.1, rfl, hh.2⟩) ?_)
        rintro v5 w5 ⟨rfl, hb5⟩
        have hcur5 := HSB.out _ _ hcur hb5
        have hl5' := hl0.below hb5 hl0.lt
        have hrow5 := hrow0.below hb5
        refine ⟨hcur5, ?_⟩
        simp only [Act.put, List.setIfInBounds_toArray, List.set_cons_zero, List.set_cons_succ]
        refine held_one (i := 9) (by kernel_rfl) _ rfl (wpOp_valueTo rfl rfl 23 rfl (exec_oneH (.tmp 22) rfl hN HR.out.2.2.2.2.2.2 rfl) ⟨HSA.out _ _ hcur5, ?_⟩)
        simp only [Act.put, List.setIfInBounds_toArray, List.set_cons_zero, List.set_cons_succ]
        have hrow9 := hrow5.below ((Below.refl _ _).alloc (Nat.le_refl _) (.cells (B8 hN) 24))
        have hl9 : Lies (w5.alloc (.cells (B8 hN) 24)) s5 #[u] 28 := hl5'.alloc _
        have hcur9 := HSA.out w5 (.cells (B8 hN) 24) hcur5
        obtain ⟨v7, w7, hrun, hrow7, hgr, h1c⟩ := run_moreH hrow9 (by have := HR.out.2.2.1; omega) (HSZ.out _ hcur9) w5.heap.size hN HR.out.2.2.2.2.2.2 (Lies.new _ _ _) 26
        have hl7 : Lies w7 s5 #[u] 28 := (hgr.block s5 hl9.lt (fun e => by have := (hrow9.block s5 e.symm).1; have := HS5.out.2; omega)).trans hl9
        have hcur7 : SSr w w2 s5 w7 := HSG.out _ _ _ hcur9 hgr (fun j e => (hrow9.block j e).1)
        refine held_one (i := 10) (by kernel_rfl) _ rfl (wpOp_valueTo rfl rfl 24 rfl (exec_moreH (.tmp 15) (.tmp 23) rfl (v := u) (g := w5.heap.size) rfl rfl hrun) ⟨hcur7, ?_⟩)
        simp only [Act.put, List.setIfInBounds_toArray, List.set_cons_zero, List.set_cons_succ]
        obtain ⟨g7, c7, rfl, _⟩ := hrow7.shape (by omega)
        refine held_take (i := 11) (v := .pointer (some ⟨s5, 0, none⟩)) rfl 25 rfl (by kernel_rfl) (by kernel_rfl) (by kernel_rfl) (fun _ _ _ h => h) (by rfl) (by intro w' hS'; unfold execOp; simp [go_sem]) hcur7 _ rfl ?_
        simp only [Act.put, List.setIfInBounds_toArray, List.set_cons_zero, List.set_cons_succ]
        refine held_one (i := 12) (by kernel_rfl) _ rfl (wpOp_store22 rfl rfl rfl (.tmp 25) (.tmp 24) rfl ⟨s5, 0, none⟩ rfl ⟨g7, 0, none⟩ (k + 1) c7 rfl u (hl7.cell 0 rfl) (hl7.free 0) ⟨HSC.out _ _ hcur7, ?_⟩)
        refine wpAnyH_done (by kernel_rfl) ?_ _
        have hrow8 := hrow7.kept (grown_set (grown_refl w7 (some s5)) 0 (.slice (some ⟨g7, 0, none⟩) (k + 1) c7)) (fun x hx e => by have := (hrow7.block x hx).1; have := HS5.out.2; have := Option.some.inj e; omega)
        rw [HR.out.2.2.2.2.2.1, ← sigTo_succ] at hrow8
        have hl8 := hl7.set 0 (.slice (some ⟨g7, 0, none⟩) (k + 1) c7)
        have H8 := Lib.hid (And.intro (HSC.out _ (.slice (some ⟨g7, 0, none⟩) (k + 1) c7) hcur7) (And.intro hl8 hrow8))
        clear hrow8 hl8 hcur7 hl7 hrun hrow7 hgr h1c hrow9 hl9 hcur9 hcur5 hl5' hrow5 hb5 hcur hl0 hrow0 hcall
        go_wp2_with fail
        refine ⟨⟨k + 1, by have := HR.out.2.2.1; omega, by go_num, _, H8.out.1, H8.out.2.1, H8.out.2.2⟩, ?_⟩
        have := HR.out.2.2.1
        simp [intOf]; omega
      · rintro v5 w5 ⟨rfl, hb5⟩
        have hcur5 := HSB.out _ _ hcur hb5
        have hl5' := hl0.below hb5 hl0.lt
        have hrow5 := hrow0.below hb5
        refine ⟨hcur5, ?_⟩
        simp only [Act.put, List.setIfInBounds_toArray, List.set_cons_zero, List.set_cons_succ]
        refine held_two (i := 1) (j := 9) (by kernel_rfl) _ _ rfl rfl (wpOp_valueTo rfl rfl 15 rfl (v := u) (by have h1 := (hl5').cell 0 (v := u) rfl; unfold execOp; simp [go_sem, h1]) ⟨hcur5, ?_⟩) (wpOp_valueTo rfl rfl 23 rfl (exec_oneH (.tmp 22) rfl hN HR.out.2.2.2.2.2.2 rfl) ⟨HSA.out _ _ hcur5, ?_⟩)
        · simp only [Act.put, List.setIfInBounds_toArray, List.set_cons_zero, List.set_cons_succ]
          refine held_one (i := 9) (by kernel_rfl) _ rfl (wpOp_valueTo rfl rfl 23 rfl (exec_oneH (.tmp 22) rfl hN HR.out.2.2.2.2.2.2 rfl) ⟨HSA.out _ _ hcur5, ?_⟩)
          simp only [Act.put, List.setIfInBounds_toArray, List.set_cons_zero, List.set_cons_succ]
          have hrow9 := hrow5.below ((Below.refl _ _).alloc (Nat.le_refl _) (.cells (B8 hN) 24))
          have hl9 : Lies (w5.alloc (.cells (B8 hN) 24)) s5 #[u] 28 := hl5'.alloc _
          have hcur9 := HSA.out w5 (.cells (B8 hN) 24) hcur5
          obtain ⟨v7, w7, hrun, hrow7, hgr, h1c⟩ := run_moreH hrow9 (by have := HR.out.2.2.1; omega) (HSZ.out _ hcur9) w5.heap.size hN HR.out.2.2.2.2.2.2 (Lies.new _ _ _) 26
          have hl7 : Lies w7 s5 #[u] 28 := (hgr.block s5 hl9.lt (fun e => by have := (hrow9.block s5 e.symm).1; have := HS5.out.2; omega)).trans hl9
          have hcur7 : SSr w w2 s5 w7 := HSG.out _ _ _ hcur9 hgr (fun j e => (hrow9.block j e).1)
          refine held_one (i := 10) (by kernel_rfl) _ rfl (wpOp_valueTo rfl rfl 24 rfl (exec_moreH (.tmp 15) (.tmp 23) rfl (v := u) (g := w5.heap.size) rfl rfl hrun) ⟨hcur7, ?_⟩)
          simp only [Act.put, List.setIfInBounds_toArray, List.set_cons_zero, List.set_cons_succ]
          obtain ⟨g7, c7, rfl, _⟩ := hrow7.shape (by omega)
          refine held_take (i := 11) (v := .pointer (some ⟨s5, 0, none⟩)) rfl 25 rfl (by kernel_rfl) (by kernel_rfl) (by kernel_rfl) (fun _ _ _ h => h) (by rfl) (by intro w' hS'; unfold execOp; simp [go_sem]) hcur7 _ rfl ?_
          simp only [Act.put, List.setIfInBounds_toArray, List.set_cons_zero, List.set_cons_succ]
          refine held_one (i := 12) (by kernel_rfl) _ rfl (wpOp_store22 rfl rfl rfl (.tmp 25) (.tmp 24) rfl ⟨s5, 0, none⟩ rfl ⟨g7, 0, none⟩ (k + 1) c7 rfl u (hl7.cell 0 rfl) (hl7.free 0) ⟨HSC.out _ _ hcur7, ?_⟩)
          refine wpAnyH_done (by kernel_rfl) ?_ _
          have hrow8 := hrow7.kept (grown_set (grown_refl w7 (some s5)) 0 (.slice (some ⟨g7, 0, none⟩) (k + 1) c7)) (fun x hx e => by have := (hrow7.block x hx).1; have := HS5.out.2; have := Option.some.inj e; omega)
          rw [HR.out.2.2.2.2.2.1, ← sigTo_succ] at hrow8
          have hl8 := hl7.set 0 (.slice (some ⟨g7, 0, none⟩) (k + 1) c7)
          have H8 := Lib.hid (And.intro (HSC.out _ (.slice (some ⟨g7, 0, none⟩) (k + 1) c7) hcur7) (And.intro hl8 hrow8))
          clear hrow8 hl8 hcur7 hl7 hrun hrow7 hgr h1c hrow9 hl9 hcur9 hcur5 hl5' hrow5 hb5 hcur hl0 hrow0 hcall
          go_wp2_with fail
          refine ⟨⟨k + 1, by have := HR.out.2.2.1; omega, by go_num, _, H8.out.1, H8.out.2.1, H8.out.2.2⟩, ?_⟩
          have := HR.out.2.2.1
          simp [intOf]; omega
        · simp only [Act.put, List.setIfInBounds_toArray, List.set_cons_zero, List.set_cons_succ]
          refine held_one (i := 1) (by kernel_rfl) _ rfl (wpOp_valueTo rfl rfl 15 rfl (v := u) (w' := w5.alloc (.cells (B8 hN) 24)) (by have h1 := (hl5'.alloc (.cells (B8 hN) 24)).cell 0 (v := u) rfl; unfold execOp; simp [go_sem, h1]) ⟨HSA.out _ _ hcur5, ?_⟩)
          simp only [Act.put, List.setIfInBounds_toArray, List.set_cons_zero, List.set_cons_succ]
          have hrow9 := hrow5.below ((Below.refl _ _).alloc (Nat.le_refl _) (.cells (B8 hN) 24))
          have hl9 : Lies (w5.alloc (.cells (B8 hN) 24)) s5 #[u] 28 := hl5'.alloc _
          have hcur9 := HSA.out w5 (.cells (B8 hN) 24) hcur5
          obtain ⟨v7, w7, hrun, hrow7, hgr, h1c⟩ := run_moreH hrow9 (by have := HR.out.2.2.1; omega) (HSZ.out _ hcur9) w5.heap.size hN HR.out.2.2.2.2.2.2 (Lies.new _ _ _) 26
          have hl7 : Lies w7 s5 #[u] 28 := (hgr.block s5 hl9.lt (fun e => by have := (hrow9.block s5 e.symm).1; have := HS5.out.2; omega)).trans hl9
          have hcur7 : SSr w w2 s5 w7 := HSG.out _ _ _ hcur9 hgr (fun j e => (hrow9.block j e).1)
          refine held_one (i := 10) (by kernel_rfl) _ rfl (wpOp_valueTo rfl rfl 24 rfl (exec_moreH (.tmp 15) (.tmp 23) rfl (v := u) (g := w5.heap.size) rfl rfl hrun) ⟨hcur7, ?_⟩)
          simp only [Act.put, List.setIfInBounds_toArray, List.set_cons_zero, List.set_cons_succ]
          obtain ⟨g7, c7, rfl, _⟩ := hrow7.shape (by omega)
          refine held_take (i := 11) (v := .pointer (some ⟨s5, 0, none⟩)) rfl 25 rfl (by kernel_rfl) (by kernel_rfl) (by kernel_rfl) (fun _ _ _ h => h) (by rfl) (by intro w' hS'; unfold execOp; simp [go_sem]) hcur7 _ rfl ?_
          simp only [Act.put, List.setIfInBounds_toArray, List.set_cons_zero, List.set_cons_succ]
          refine held_one (i := 12) (by kernel_rfl) _ rfl (wpOp_store22 rfl rfl rfl (.tmp 25) (.tmp 24) rfl ⟨s5, 0, none⟩ rfl ⟨g7, 0, none⟩ (k + 1) c7 rfl u (hl7.cell 0 rfl) (hl7.free 0) ⟨HSC.out _ _ hcur7, ?_⟩)
          refine wpAnyH_done (by kernel_rfl) ?_ _
          have hrow8 := hrow7.kept (grown_set (grown_refl w7 (some s5)) 0 (.slice (some ⟨g7, 0, none⟩) (k + 1) c7)) (fun x hx e => by have := (hrow7.block x hx).1; have := HS5.out.2; have := Option.some.inj e; omega)
          rw [HR.out.2.2.2.2.2.1, ← sigTo_succ] at hrow8
          have hl8 := hl7.set 0 (.slice (some ⟨g7, 0, none⟩) (k + 1) c7)
          have H8 := Lib.hid (And.intro (HSC.out _ (.slice (some ⟨g7, 0, none⟩) (k + 1) c7) hcur7) (And.intro hl8 hrow8))
          clear hrow8 hl8 hcur7 hl7 hrun hrow7 hgr h1c hrow9 hl9 hcur9 hcur5 hl5' hrow5 hb5 hcur hl0 hrow0 hcall
          go_wp2_with fail
          refine ⟨⟨k + 1, by have := HR.out.2.2.1; omega, by go_num, _, H8.out.1, H8.out.2.1, H8.out.2.2⟩, ?_⟩
          have := HR.out.2.2.1
          simp [intOf]; omega
    · obtain rfl : k = 35 := by omega
      rw [show ((35 : Nat) : Int) = 35 from rfl]
      obtain ⟨g5, c5, rfl, _⟩ := hr.shape (by omega)
      have c9 := hl.cell 0 (v := .slice (some ⟨g5, 0, none⟩) 35 c5) rfl
      have hl4 := hss.2.lies H2.out.2.2 HS4.out.1 HS4.out.2.1
      have c4 := hl4.cell 0 (v := .slice none 0 0) rfl
      have f4 := hl4.free 0
      have HX := Lib.hid (And.intro hss (And.intro hl4 hr))
      clear hss hl hr hl4 hlt hk
      go_wp2_with fail
      have hl7 := HX.out.2.1.set 0 (.slice (some ⟨g5, 0, none⟩) 35 c5)
      have hr7 := HX.out.2.2.kept (grown_set (grown_refl wr (some s4)) 0 (.slice (some ⟨g5, 0, none⟩) 35 c5)) (fun x hx e => by have := (HX.out.2.2.block x hx).1; have := HS4.out.1; have := Option.some.inj e; omega)
      refine bodyPost_ret (v := .agg #[.slice (some ⟨g5, 0, none⟩) 35 c5]) (results_cell_row (p := 4) (ty := 28) (by kernel_rfl) _ _ s4 28 #[.slice (some ⟨g5, 0, none⟩) 35 c5] (0, 0) _ rfl hl7 Tryz.underlying28 rfl (by kernel_rfl)) rfl ⟨_, rfl, ⟨hr7.1, ?_⟩, HX.out.1.1.setCell (p := ⟨s4, 0, none⟩) HS4.out.2.2 _⟩
      rcases hr7.2 with h | ⟨g', cap', cur', h1', h2', h3'⟩
      · exact .inl h
      · exact .inr ⟨g', cap', cur', h1', by have := HX.out.1.1.size; have := HS5.out; omega, h3'⟩
end Go.Proofs.YtgempifedhiknaaGreatDoor
