/-
  Of, of one byte and two whole hashes, wherever they lie; and the region in which it is asked beside another call. No condition.
-/
import Derived.Test.YtccfdobogbiomaaDoorRoot
namespace Go.Proofs.YtccfdobogbiomaaDoor
open Go.RowKit Sha

theorem of_trio (W : World) (gs g0 gx gy : Nat) (R1 R2 : List UInt8) (h1 : R1.length = 32) (h2 : R2.length = 32)
    (t2 : W.heap[gs]? = some (.cells #[.slice (some ⟨g0, 0, none⟩) 1 1, .slice (some ⟨gx, 0, none⟩) 32 32, .slice (some ⟨gy, 0, none⟩) 32 32] 38 (0, 0)))
    (t1 : W.heap[g0]? = some (.cells #[.int .u8 2] 5 (0, 0))) (z1 : Lies W gx (B8 R1) 27) (z2 : Lies W gy (B8 R2) 27) (hs : Starts W) (hc : Cubes W) :
    Calls Tryd.prog 10 #[.slice (some ⟨gs, 0, none⟩) 3 3] W fun e w2 => e = .returned (.agg (B8 (sha (2 :: (R1 ++ R2))))) ∧ Below W.heap.size W w2 := by
  have hm : (3 : Nat) ≤ maxLen := by unfold maxLen; omega
  have hm2 : (32 : Nat) ≤ maxLen := by unfold maxLen; omega
  have src : ∀ (g : Nat) (R : List UInt8), Lies W g (B8 R) 27 → Src W g 0 R := fun g R hl j hj => by
    rw [Nat.zero_add]; exact hl.cell j (B8_get R j hj)
  have hj : joined [⟨some ⟨g0, 0, none⟩, [2], 1⟩, ⟨some ⟨gx, 0, none⟩, R1, 32⟩, ⟨some ⟨gy, 0, none⟩, R2, 32⟩] = 2 :: (R1 ++ R2) := by simp [joined]
  have main := of_any [⟨some ⟨g0, 0, none⟩, [2], 1⟩, ⟨some ⟨gx, 0, none⟩, R1, 32⟩, ⟨some ⟨gy, 0, none⟩, R2, 32⟩] W (some ⟨gs, 0, none⟩) 3 hm ?_ ?_ ?_ hs hc
  · rw [hj] at main
    exact main
  · intro p hp
    simp only [List.mem_cons, List.not_mem_nil, or_false] at hp
    rcases hp with rfl | rfl | rfl
    · exact good_new t1
    · exact good_hash (by rw [h1]; exact Nat.le_refl _) hm2 z1.lt (src _ _ z1)
    · exact good_hash (by rw [h2]; exact Nat.le_refl _) hm2 z2.lt (src _ _ z2)
  · intro _
    refine ⟨_, _, rfl, Lies.lt t2, fun j hj => ?_⟩
    have hj2 : j = 0 ∨ j = 1 ∨ j = 2 := by simp at hj; omega
    rcases hj2 with rfl | rfl | rfl
    · exact cell_of_row W _ _ _ _ _ t2
    · have := cell_of_row W _ 1 _ _ _ t2
      simpa [Part.val, h1] using this
    · have := cell_of_row W _ 2 _ _ _ t2
      simpa [Part.val, h2] using this
  · rw [hj]; simp [h1, h2]

section
variable {P : Program} {ops : Array Oper} {Q : Exit → Act → World → Prop}
theorem wpOp_callTo {i : Nat} {o : Oper} {a : Act} {w : World} {K : Act → World → Prop} (hi : ops[i]? = some o) (hg : o.guard = none) (d : Tmp) (hd : o.dst = some d) (f : FuncId) (args : Array Value)
    (hr : (execOp a.eval o).run P w = .ok (.enter f args) w) (R : Value → World → Prop) (hc : Calls P f args w fun e w' => ∃ v, e = .returned v ∧ R v w') (h : ∀ v w', R v w' → K (a.put (some d) v) w') : wpOp P ops Q i K a w :=
  wpOp_call hi hg f args hr R hc (by rw [hd]; exact h)
theorem wpOp_valueTo {i : Nat} {o : Oper} {a : Act} {w w' : World} {K : Act → World → Prop} {v : Value} (hi : ops[i]? = some o) (hg : o.guard = none) (d : Tmp) (hd : o.dst = some d)
    (hr : (execOp a.eval o).run P w = .ok (.value v) w') (h : K (a.put (some d) v) w') : wpOp P ops Q i K a w := by
  refine wpOp_wp hi hg ?_
  unfold Oper.wp
  rw [hr, Oper.upon_value, hd]
  exact h
theorem wpAny_two {i j : Nat} {fuel : Nat} {listed : Array Bool} {a : Act} {w : World} {md : Region.Mode} (hr : Region.ready md ops listed = [i, j]) (l1 l2 : Array Bool) (h1 : listed.setIfInBounds i true = l1) (h2 : listed.setIfInBounds j true = l2)
    (k1 : wpOp P ops Q i (wpAny P md ops Q fuel l1) a w) (k2 : wpOp P ops Q j (wpAny P md ops Q fuel l2) a w) : wpAny P md ops Q (fuel + 1) listed a w := by
  subst h1 h2
  refine wpAny_all hr (by simp) ?_
  intro x hx
  simp only [List.mem_cons, List.not_mem_nil, or_false] at hx
  rcases hx with rfl | rfl
  · exact k1
  · exact k2
end

theorem below_one {B : Nat} {w0 w : World} (h : Below B w0 w) (hB : B ≤ w.heap.size) (o : Obj) : Below B w0 (w.alloc o) := h.alloc hB o

theorem trio_any {ops : Array Oper} {Q : Exit → Act → World → Prop} (w0 : World) (RM R1 R2 : List UInt8) (gx gy : Nat) (hR1 : R1.length = 32) (hR2 : R2.length = 32) (a0 : Act) (s1 s2 s3 s4 : Tmp)
    (h12 : s1 ≠ s2) (h13 : s1 ≠ s3) (h14 : s1 ≠ s4) (h23 : s2 ≠ s3) (h24 : s2 ≠ s4) (h34 : s3 ≠ s4)
    (y1 : Lies w0 gx (B8 R1) 27) (y2 : Lies w0 gy (B8 R2) 27) (hs : Starts w0) (hc : Cubes w0) (f : FuncId) (args1 : Array Value) (o1 o2 o5 o6 : Oper)
    (i1 : ops[1]? = some o1) (gd1 : o1.guard = none) (d1 : o1.dst = some s1) (r1 : ∀ v1 v2 v3 v4 w, (execOp (put4 a0 s1 s2 s3 s4 v1 v2 v3 v4).eval o1).run Tryd.prog w = .ok (.enter f args1) w)
    (i2 : ops[2]? = some o2) (gd2 : o2.guard = none) (d2 : o2.dst = some s2) (r2 : ∀ v1 v2 v3 v4 w, (execOp (put4 a0 s1 s2 s3 s4 v1 v2 v3 v4).eval o2).run Tryd.prog w = .ok (.value (.slice (some ⟨w.heap.size, 0, none⟩) 1 1)) (w.alloc (.cells #[.int .u8 2] 5)))
    (i5 : ops[5]? = some o5) (gd5 : o5.guard = none) (d5 : o5.dst = some s3)
    (r5 : ∀ v1 g0 v3 v4 w, (execOp (put4 a0 s1 s2 s3 s4 v1 (.slice (some ⟨g0, 0, none⟩) 1 1) v3 v4).eval o5).run Tryd.prog w = .ok (.value (.slice (some ⟨w.heap.size, 0, none⟩) 3 3)) (w.alloc (.cells #[.slice (some ⟨g0, 0, none⟩) 1 1, .slice (some ⟨gx, 0, none⟩) 32 32, .slice (some ⟨gy, 0, none⟩) 32 32] 38)))
    (i6 : ops[6]? = some o6) (gd6 : o6.guard = none) (d6 : o6.dst = some s4) (r6 : ∀ v1 v2 gs v4 w, (execOp (put4 a0 s1 s2 s3 s4 v1 v2 (.slice (some ⟨gs, 0, none⟩) 3 3) v4).eval o6).run Tryd.prog w = .ok (.enter 10 #[.slice (some ⟨gs, 0, none⟩) 3 3]) w)
    (e0 : Region.ready .any ops #[true, false, false, true, true, false, false, false, false] = [1, 2]) (e1 : Region.ready .any ops #[true, true, false, true, true, false, false, false, false] = [2])
    (e2 : Region.ready .any ops #[true, false, true, true, true, false, false, false, false] = [1, 5]) (e12 : Region.ready .any ops #[true, true, true, true, true, false, false, false, false] = [5])
    (e25 : Region.ready .any ops #[true, false, true, true, true, true, false, false, false] = [1]) (e125 : Region.ready .any ops #[true, true, true, true, true, true, false, false, false] = [6])
    (hc1 : ∀ W, Below w0.heap.size w0 W → Calls Tryd.prog f args1 W fun e w' => e = .returned (.agg (B8 RM)) ∧ Below W.heap.size W w')
    (hQ : ∀ v2 v3 w', Below w0.heap.size w0 w' → wpAny Tryd.prog .any ops Q 2 #[true, true, true, true, true, true, true, false, false] (put4 a0 s1 s2 s3 s4 (.agg (B8 RM)) v2 v3 (.agg (B8 (sha (2 :: (R1 ++ R2)))))) w')
    (w : World) (hb : Below w0.heap.size w0 w) : wpAny Tryd.prog .any ops Q 6 #[true, false, false, true, true, false, false, false, false] a0 w := by
  have hB := hb.size
  -- behind all three
  have tail : ∀ (v4 : Value) (g0 gs : Nat) (W : World), Below w0.heap.size w0 W → W.heap[gs]? = some (.cells #[.slice (some ⟨g0, 0, none⟩) 1 1, .slice (some ⟨gx, 0, none⟩) 32 32, .slice (some ⟨gy, 0, none⟩) 32 32] 38 (0, 0)) → W.heap[g0]? = some (.cells #[.int .u8 2] 5 (0, 0)) →
      wpAny Tryd.prog .any ops Q 3 #[true, true, true, true, true, true, false, false, false] (put4 a0 s1 s2 s3 s4 (.agg (B8 RM)) (.slice (some ⟨g0, 0, none⟩) 1 1) (.slice (some ⟨gs, 0, none⟩) 3 3) v4) W := by
    intro v4 g0 gs W hbW t2 t1
    refine wpAny_callTo i6 gd6 s4 d6 e125 _ rfl 10 _ (r6 _ _ _ _ _) (fun v w' => v = .agg (B8 (sha (2 :: (R1 ++ R2)))) ∧ Below W.heap.size W w')
      ((of_trio W gs g0 gx gy R1 R2 hR1 hR2 t2 t1 (y1.below hbW y1.lt) (y2.below hbW y2.lt) (hs.below hbW (by have := Lies.lt hc; omega)) (hc.below hbW (Lies.lt hc))).mono fun e w' hh => ⟨_, hh.1, rfl, hh.2⟩) ?_
    rintro v w' ⟨rfl, hb'⟩
    rw [put4_4]
    exact hQ _ _ _ (hbW.trans (hb'.mono hbW.size))
  -- behind the call and the byte
  have tail12 : ∀ (v3 v4 : Value) (g0 : Nat) (W : World), Below w0.heap.size w0 W → W.heap[g0]? = some (.cells #[.int .u8 2] 5 (0, 0)) →
      wpAny Tryd.prog .any ops Q 4 #[true, true, true, true, true, false, false, false, false] (put4 a0 s1 s2 s3 s4 (.agg (B8 RM)) (.slice (some ⟨g0, 0, none⟩) 1 1) v3 v4) W := by
    intro v3 v4 g0 W hbW t1
    refine wpAny_valueTo i5 gd5 s3 d5 e12 _ rfl _ _ (r5 _ _ _ _ _) ?_
    rw [put4_3 _ _ _ _ _ _ _ _ _ _ h34]
    exact tail _ g0 W.heap.size _ (below_one hbW hbW.size _) (Go.heap_alloc_new W _) ((Below.heap_alloc W _ g0 (Lies.lt t1)).trans t1)
  obtain ⟨v1, v2, v3, v4, ea⟩ := put4_self a0 s1 s2 s3 s4 h12 h13 h14 h23 h24 h34
  have start : wpAny Tryd.prog .any ops Q 6 #[true, false, false, true, true, false, false, false, false] (put4 a0 s1 s2 s3 s4 v1 v2 v3 v4) w := by
    refine wpAny_two e0 #[true, true, false, true, true, false, false, false, false] #[true, false, true, true, true, false, false, false, false] rfl rfl ?_ ?_
    · refine wpOp_callTo i1 gd1 s1 d1 f args1 (r1 _ _ _ _ _) (fun v w' => v = .agg (B8 RM) ∧ Below w.heap.size w w') ((hc1 w hb).mono fun e w' hh => ⟨_, hh.1, rfl, hh.2⟩) ?_
      rintro v w' ⟨rfl, hb'⟩
      rw [put4_1 _ _ _ _ _ _ _ _ _ _ h12 h13 h14]
      have hbw := hb.trans (hb'.mono hb.size)
      refine wpAny_valueTo i2 gd2 s2 d2 e1 _ rfl _ _ (r2 _ _ _ _ _) ?_
      rw [put4_2 _ _ _ _ _ _ _ _ _ _ h23 h24]
      exact tail12 _ _ w'.heap.size _ (below_one hbw hbw.size _) (Go.heap_alloc_new w' _)
    · refine wpOp_valueTo i2 gd2 s2 d2 (r2 _ _ _ _ _) ?_
      rw [put4_2 _ _ _ _ _ _ _ _ _ _ h23 h24]
      have hb2 := below_one hb hB (.cells #[.int .u8 2] 5)
      have t1 : (w.alloc (.cells #[.int .u8 2] 5)).heap[w.heap.size]? = some (.cells #[.int .u8 2] 5 (0, 0)) := Go.heap_alloc_new w _
      generalize w.alloc (.cells #[.int .u8 2] 5) = W at hb2 t1 ⊢
      generalize w.heap.size = g0 at t1 ⊢
      refine wpAny_two e2 #[true, true, true, true, true, false, false, false, false] #[true, false, true, true, true, true, false, false, false] rfl rfl ?_ ?_
      · refine wpOp_callTo i1 gd1 s1 d1 f args1 (r1 _ _ _ _ _) (fun v w' => v = .agg (B8 RM) ∧ Below W.heap.size W w') ((hc1 W hb2).mono fun e w' hh => ⟨_, hh.1, rfl, hh.2⟩) ?_
        rintro v w' ⟨rfl, hb'⟩
        rw [put4_1 _ _ _ _ _ _ _ _ _ _ h12 h13 h14]
        exact tail12 _ _ g0 _ (hb2.trans (hb'.mono hb2.size)) ((hb'.block g0 (Lies.lt t1)).trans t1)
      · refine wpOp_valueTo i5 gd5 s3 d5 (r5 _ _ _ _ _) ?_
        rw [put4_3 _ _ _ _ _ _ _ _ _ _ h34]
        have hb3 := below_one hb2 hb2.size (.cells #[.slice (some ⟨g0, 0, none⟩) 1 1, .slice (some ⟨gx, 0, none⟩) 32 32, .slice (some ⟨gy, 0, none⟩) 32 32] 38)
        have t2 : (W.alloc (.cells #[.slice (some ⟨g0, 0, none⟩) 1 1, .slice (some ⟨gx, 0, none⟩) 32 32, .slice (some ⟨gy, 0, none⟩) 32 32] 38)).heap[W.heap.size]? = _ := Go.heap_alloc_new W _
        have t3 := (Below.heap_alloc W (.cells #[.slice (some ⟨g0, 0, none⟩) 1 1, .slice (some ⟨gx, 0, none⟩) 32 32, .slice (some ⟨gy, 0, none⟩) 32 32] 38) g0 (Lies.lt t1)).trans t1
        generalize W.alloc (.cells #[.slice (some ⟨g0, 0, none⟩) 1 1, .slice (some ⟨gx, 0, none⟩) 32 32, .slice (some ⟨gy, 0, none⟩) 32 32] 38) = W2 at hb3 t2 t3 ⊢
        refine wpAny_callTo i1 gd1 s1 d1 e25 _ rfl f args1 (r1 _ _ _ _ _) (fun v w' => v = .agg (B8 RM) ∧ Below W2.heap.size W2 w') ((hc1 W2 hb3).mono fun e w' hh => ⟨_, hh.1, rfl, hh.2⟩) ?_
        rintro v w' ⟨rfl, hb'⟩
        rw [put4_1 _ _ _ _ _ _ _ _ _ _ h12 h13 h14]
        exact tail _ g0 W.heap.size _ (hb3.trans (hb'.mono hb3.size)) ((hb'.block _ (Lies.lt t2)).trans t2) ((hb'.block g0 (Lies.lt t3)).trans t3)
  rw [ea]
  exact start
theorem of_bytes (w : World) (pa : Option Addr) (xs : List UInt8) (pc : Nat) (hx : xs.length ≤ 1000000) (hg : Good w ⟨pa, xs, pc⟩) (hs : Starts w) (hc : Cubes w) :
    Calls Tryd.prog 10 #[.slice (some ⟨w.heap.size, 0, none⟩) 1 1] (w.alloc (.cells #[.slice pa xs.length pc] 38)) fun e w' => e = .returned (.agg (B8 (sha xs))) ∧ Below w.heap.size w w' := by
  have hb : Below w.heap.size w (w.alloc (.cells #[.slice pa xs.length pc] 38)) := (Below.refl _ _).alloc (Nat.le_refl _) _
  have t1 : (w.alloc (.cells #[.slice pa xs.length pc] 38)).heap[w.heap.size]? = some (.cells #[.slice pa xs.length pc] 38 (0, 0)) := Go.heap_alloc_new w _
  generalize w.alloc (.cells #[.slice pa xs.length pc] 38) = W at hb t1 ⊢
  have hm : (1 : Nat) ≤ maxLen := by unfold maxLen; omega
  have hj : joined [⟨pa, xs, pc⟩] = xs := by simp [joined]
  have main := of_any [⟨pa, xs, pc⟩] W (some ⟨w.heap.size, 0, none⟩) 1 hm ?_ ?_ (by rw [hj]; exact hx) (hs.below hb (by have := Lies.lt hc; omega)) (hc.below hb (Lies.lt hc))
  · rw [hj] at main
    refine main.mono ?_
    rintro e w3 ⟨rfl, hb3⟩
    exact ⟨rfl, hb.trans (hb3.mono hb.size)⟩
  · intro p hp
    rw [List.mem_singleton] at hp
    rw [hp]; exact hg.below hb
  · intro _
    refine ⟨_, _, rfl, Lies.lt t1, fun j hj => ?_⟩
    obtain rfl : j = 0 := by simp at hj; omega
    have := cell_of_row W _ 0 _ _ _ t1
    simpa [Part.val] using this
theorem guard27 : Tryd.prog.eqGuardType Tryd.prog.depth 27 = false := by kernel_rfl
end Go.Proofs.YtccfdobogbiomaaDoor
