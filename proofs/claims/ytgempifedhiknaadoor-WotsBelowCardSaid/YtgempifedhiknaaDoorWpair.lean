/-
  Two calls whose order Go leaves open, behind what was taken first: their values assigned, or stored into two new rows of one cell. No condition.
-/
import Derived.Test.YtgempifedhiknaaDoorWawk
import Derived.Test.YtgempifedhiknaaDoorWdg
namespace Go.Proofs.YtgempifedhiknaaDoor
open Go.RowKit Go.Shelf Sha

section
variable {P : Program} {ops : Array Oper} {Q : Exit → Act → World → Prop} {md : Region.Mode} {S : World → Prop}
/-- What holds at each set of operations holds to the end. -/
theorem wpAnyH_inv (I : Array Bool → Act → World → Prop) (hdone : ∀ l a w, I l a w → Region.ready md ops l = [] → Q .normal a w)
    (hstep : ∀ l a w i, I l a w → i ∈ Region.ready md ops l → wpOp P ops Q i (fun a' w' => S w' ∧ I (l.setIfInBounds i true) a' w') a w) :
    ∀ fuel l a w, l.toList.count false ≤ fuel → I l a w → wpAnyH P md ops Q S fuel l a w := by
  intro fuel
  induction fuel with
  | zero =>
    intro l a w hc hI
    have hr : Region.ready md ops l = [] := by
      rw [List.eq_nil_iff_forall_not_mem]
      intro i hi
      have := count_true l i (mem_ready.1 hi).1
      omega
    exact ⟨hr, hdone _ _ _ hI hr⟩
  | succ fuel ih =>
    intro l a w hc hI
    refine ⟨fun h => hdone _ _ _ hI h, fun i hi => wpOp_mono (fun a' w' h' => ⟨h'.1, ih _ a' w' ?_ h'.2⟩) (hstep l a w i hI hi)⟩
    have := count_true l i (mem_ready.1 hi).1
    omega
end

/-! ### Two calls, two assignments -/
/-- What has come up. -/
def CalI (w0 : World) (C1 C2 : Value → World → Prop) (a0 : Act) (s1 s2 p1 p2 : Tmp) (l : Array Bool) (a : Act) (w : World) : Prop :=
  ∃ c1 c2 n1 n2 : Bool, l = #[true, c1, true, c2, n1, n2] ∧ ∃ v1 v2 v3 v4 : Value, a = put4 a0 s1 s2 p1 p2 v1 v2 v3 v4 ∧
    (c1 = true → C1 v1 w) ∧ (c2 = true → C2 v2 w) ∧ (n1 = true → c1 = true ∧ v3 = v1) ∧ (n2 = true → c2 = true ∧ v4 = v2) ∧ Below w0.heap.size w0 w
def calRow (r : List Nat) (c1 c2 n1 n2 : Bool) : Bool :=
  r.all (fun i => (i == 1 && !c1) || (i == 3 && !c2) || (i == 4 && !n1 && c1) || (i == 5 && !n2 && c2)) && (!r.isEmpty || (c1 && c2 && n1 && n2))
def calReadyB (ops : Array Oper) : Bool :=
  [false, true].all fun c1 => [false, true].all fun c2 => [false, true].all fun n1 => [false, true].all fun n2 => calRow (Region.ready .any ops #[true, c1, true, c2, n1, n2]) c1 c2 n1 n2
theorem cal_ready {ops : Array Oper} (h : calReadyB ops = true) (c1 c2 n1 n2 : Bool) :
    (∀ i ∈ Region.ready .any ops #[true, c1, true, c2, n1, n2], i = 1 ∧ c1 = false ∨ i = 3 ∧ c2 = false ∨ i = 4 ∧ n1 = false ∧ c1 = true ∨ i = 5 ∧ n2 = false ∧ c2 = true) ∧
    (Region.ready .any ops #[true, c1, true, c2, n1, n2] = [] → c1 = true ∧ c2 = true ∧ n1 = true ∧ n2 = true) := by
  have h2 := all_two (all_two (all_two (all_two h c1) c2) n1) n2
  generalize Region.ready .any ops #[true, c1, true, c2, n1, n2] = r at h2 ⊢
  unfold calRow at h2
  rw [Bool.and_eq_true, List.all_eq_true] at h2
  refine ⟨fun i hi => ?_, fun e => ?_⟩
  · have := h2.1 i hi
    simp only [Bool.or_eq_true, Bool.and_eq_true, beq_iff_eq, Bool.not_eq_true'] at this
    rcases this with ((h | h) | h) | h
    · exact .inl h
    · exact .inr (.inl h)
    · exact .inr (.inr (.inl ⟨h.1.1, h.1.2, h.2⟩))
    · exact .inr (.inr (.inr ⟨h.1.1, h.1.2, h.2⟩))
  · have := h2.2
    subst e
    simp only [List.isEmpty_nil, Bool.not_true, Bool.false_or, Bool.and_eq_true] at this
    exact ⟨this.1.1.1, this.1.1.2, this.1.2, this.2⟩
/-- A fact on a value that a call tells stays, whatever is made later. -/
def Stays (C : Value → World → Prop) : Prop := ∀ v w w', Below w.heap.size w w' → C v w → C v w'
theorem calls2_any {ops : Array Oper} {Q : Exit → Act → World → Prop} (w0 : World) (C1 C2 : Value → World → Prop) (hC1 : Stays C1) (hC2 : Stays C2) (a0 : Act) (s1 s2 p1 p2 : Tmp)
    (h12 : s1 ≠ s2) (h13 : s1 ≠ p1) (h14 : s1 ≠ p2) (h23 : s2 ≠ p1) (h24 : s2 ≠ p2) (h34 : p1 ≠ p2) (z1 : s1 < a0.tmps.size) (z2 : s2 < a0.tmps.size)
    (f1 f2 : FuncId) (args1 args2 : Array Value) (o1 o3 o4 o5 : Oper)
    (i1 : ops[1]? = some o1) (gd1 : o1.guard = none) (d1 : o1.dst = some s1) (r1 : ∀ v1 v2 v3 v4 w, (execOp (put4 a0 s1 s2 p1 p2 v1 v2 v3 v4).eval o1).run Tryd.prog w = .ok (.enter f1 args1) w)
    (i3 : ops[3]? = some o3) (gd3 : o3.guard = none) (d3 : o3.dst = some s2) (r3 : ∀ v1 v2 v3 v4 w, (execOp (put4 a0 s1 s2 p1 p2 v1 v2 v3 v4).eval o3).run Tryd.prog w = .ok (.enter f2 args2) w)
    (i4 : ops[4]? = some o4) (gd4 : o4.guard = none) (d4 : o4.dst = some p1) (op4 : o4.op = .assign (.tmp s1))
    (i5 : ops[5]? = some o5) (gd5 : o5.guard = none) (d5 : o5.dst = some p2) (op5 : o5.op = .assign (.tmp s2))
    (hr : calReadyB ops = true)
    (hc1 : ∀ W, Below w0.heap.size w0 W → Calls Tryd.prog f1 args1 W fun e w' => ∃ v, e = .returned v ∧ C1 v w' ∧ Below W.heap.size W w')
    (hc2 : ∀ W, Below w0.heap.size w0 W → Calls Tryd.prog f2 args2 W fun e w' => ∃ v, e = .returned v ∧ C2 v w' ∧ Below W.heap.size W w')
    (hQ : ∀ v1 v2 w', C1 v1 w' → C2 v2 w' → Below w0.heap.size w0 w' → Q .normal (put4 a0 s1 s2 p1 p2 v1 v2 v1 v2) w')
    (w : World) (hb : Below w0.heap.size w0 w) : wpAnyH Tryd.prog .any ops Q (Below w0.heap.size w0) 4 #[true, false, true, false, false, false] a0 w := by
  refine wpAnyH_inv (CalI w0 C1 C2 a0 s1 s2 p1 p2) ?_ ?_ 4 _ _ _ (by decide) ?_
  · rintro l a w1 ⟨c1, c2, n1, n2, rfl, v1, v2, v3, v4, rfl, k1, k2, k3, k4, k5⟩ hnil
    obtain ⟨rfl, rfl, rfl, rfl⟩ := (cal_ready hr c1 c2 n1 n2).2 hnil
    rw [(k3 rfl).2, (k4 rfl).2]
    exact hQ v1 v2 w1 (k1 rfl) (k2 rfl) k5
  · rintro l a w1 i ⟨c1, c2, n1, n2, rfl, v1, v2, v3, v4, rfl, k1, k2, k3, k4, k5⟩ hi
    rcases (cal_ready hr c1 c2 n1 n2).1 i hi with ⟨rfl, e⟩ | ⟨rfl, e⟩ | ⟨rfl, e, e1⟩ | ⟨rfl, e, e1⟩
    · refine wpOp_call i1 gd1 f1 args1 (r1 _ _ _ _ _) (fun v w' => C1 v w' ∧ Below w1.heap.size w1 w') (hc1 w1 k5) ?_
      rintro v w' ⟨hv, hb'⟩
      rw [d1, put4_1 _ _ _ _ _ _ _ _ _ _ h12 h13 h14]
      have hn1 : n1 = false := by
        cases n1
        · rfl
        · have := (k3 rfl).1; rw [e] at this; cases this
      subst hn1
      exact ⟨k5.trans (hb'.mono k5.size), true, c2, false, n2, rfl, v, v2, v3, v4, rfl, fun _ => hv, fun h => hC2 _ _ _ hb' (k2 h), fun h => (by cases h), k4, k5.trans (hb'.mono k5.size)⟩
    · refine wpOp_call i3 gd3 f2 args2 (r3 _ _ _ _ _) (fun v w' => C2 v w' ∧ Below w1.heap.size w1 w') (hc2 w1 k5) ?_
      rintro v w' ⟨hv, hb'⟩
      rw [d3, put4_2 _ _ _ _ _ _ _ _ _ _ h23 h24]
      have hn2 : n2 = false := by
        cases n2
        · rfl
        · have := (k4 rfl).1; rw [e] at this; cases this
      subst hn2
      exact ⟨k5.trans (hb'.mono k5.size), c1, true, n1, false, rfl, v1, v, v3, v4, rfl, fun h => hC1 _ _ _ hb' (k1 h), fun _ => hv, k3, fun h => (by cases h), k5.trans (hb'.mono k5.size)⟩
    · refine wpOp_wp i4 gd4 ?_
      unfold Oper.wp execOp
      simp only [op4, Sem.run_pure, Oper.upon_value]
      rw [d4, put4_3 _ _ _ _ _ _ _ _ _ _ h34, eval4_1 _ _ _ _ _ _ _ _ _ (Ne.symm h12) (Ne.symm h13) (Ne.symm h14) z1]
      exact ⟨k5, c1, c2, true, n2, rfl, v1, v2, v1, v4, rfl, k1, k2, fun _ => ⟨e1, rfl⟩, k4, k5⟩
    · refine wpOp_wp i5 gd5 ?_
      unfold Oper.wp execOp
      simp only [op5, Sem.run_pure, Oper.upon_value]
      rw [d5, put4_4, eval4_2 _ _ _ _ _ _ _ _ _ (Ne.symm h23) (Ne.symm h24) z2]
      exact ⟨k5, c1, c2, n1, true, rfl, v1, v2, v3, v2, rfl, k1, k2, k3, fun _ => ⟨e1, rfl⟩, k5⟩
  · obtain ⟨v1, v2, v3, v4, e⟩ := put4_self a0 s1 s2 p1 p2 h12 h13 h14 h23 h24 h34
    exact ⟨false, false, false, false, rfl, v1, v2, v3, v4, e, fun h => (by cases h), fun h => (by cases h), fun h => (by cases h), fun h => (by cases h), hb⟩

/-! ### Two calls that tell signatures, two new rows, two stores -/
theorem alloc24 (w : World) : (Instr.alloc 24 true (.tuple #[])).run Tryd.prog w = .ok (.pointer (some ⟨w.heap.size, 0, none⟩)) (w.alloc (.cells #[.slice none 0 0] 24)) := by kernel_rfl
theorem wp_alloc24 {Q : Exit → Act → World → Prop} {o : Oper} {a : Act} {w : World} {K : Act → World → Prop} (ho : o.op = .alloc 24) (h : K (a.put o.dst (.pointer (some ⟨w.heap.size, 0, none⟩))) (w.alloc (.cells #[.slice none 0 0] 24))) : o.wp Tryd.prog a w K Q := by
  unfold Oper.wp execOp
  simp only [ho, Sem.run_bind, alloc24, Result.andThen_ok, Sem.run_pure]
  exact h
theorem info24 : (Tryd.prog.info? 24).map (·.size) = some 1 := by kernel_rfl
/-- A signature as it is told. -/
def SigV (F : List UInt8) (v : Value) (w : World) : Prop := ∃ g c cs, v = .agg #[.slice (some ⟨g, 0, none⟩) 35 c] ∧ w.heap[g]? = some (.cells cs 26 (0, 0)) ∧ ∀ j, j < F.length → cs[j]? = some (.int .u8 (F.getD j 0).toNat)
theorem SigV.step {F : List UInt8} {v : Value} {w w' : World} (h : SigV F v w) (hk : ∀ (g : Nat) cs, w.heap[g]? = some (.cells cs 26 (0, 0)) → w'.heap[g]? = some (.cells cs 26 (0, 0))) : SigV F v w' := by
  obtain ⟨g, c, cs, e, h1, h2⟩ := h
  exact ⟨g, c, cs, e, hk _ _ h1, h2⟩
theorem SigV.below {F : List UInt8} {v : Value} {w w' : World} (h : SigV F v w) (hb : Below w.heap.size w w') : SigV F v w' :=
  h.step fun g _ hg => (hb.block g (Array.getElem?_eq_some_iff.1 hg).1).trans hg
theorem SigV.alloc {F : List UInt8} {v : Value} {w : World} (h : SigV F v w) (o : Obj) : SigV F v (w.alloc o) :=
  h.step fun g _ hg => (Below.heap_alloc w o g (Array.getElem?_eq_some_iff.1 hg).1).trans hg
theorem SigV.setRow {F : List UInt8} {v : Value} {w : World} (h : SigV F v w) {b : Nat} {old : Array Value} (hl : Lies w b old 24) (cs' : Array Value) : SigV F v (w.setRow b cs') :=
  h.step fun g cs hg => (setRow_other w b g cs' (fun e => by subst e; unfold Lies at hl; rw [hl] at hg; simp at hg)).trans hg
theorem sigv_of {B : Nat} {F : List UInt8} {v : Value} {w : World} (h : RowH B 35 F v w) : SigV F (.agg #[v]) w := by
  obtain ⟨g, c, rfl, _⟩ := h.shape (by omega)
  obtain ⟨_, _, cs, hcs⟩ := h.block g rfl
  refine ⟨g, c, cs, rfl, hcs, fun j hj => ?_⟩
  have := h.src j hj
  rw [Nat.zero_add, cell_of_row w g j cs 26 (0, 0) hcs] at this
  exact this
/-- What has come up. -/
def SigI (w0 : World) (F1 F2 : List UInt8) (a0 : Act) (s1 s2 p1 p2 : Tmp) (l : Array Bool) (a : Act) (w : World) : Prop :=
  ∃ c1 c2 n1 n2 t1 t2 : Bool, l = #[true, true, c1, true, true, c2, n1, n2, t1, t2] ∧ ∃ (v1 v2 v3 v4 : Value) (g1 g2 : Nat) (x1 x2 : Value), a = put4 a0 s1 s2 p1 p2 v1 v2 v3 v4 ∧
    (c1 = true → SigV F1 v1 w) ∧ (c2 = true → SigV F2 v2 w) ∧
    (n1 = true → v3 = .pointer (some ⟨g1, 0, none⟩) ∧ w0.heap.size ≤ g1 ∧ Lies w g1 #[x1] 24 ∧ (t1 = true → v1 = .agg #[x1])) ∧
    (n2 = true → v4 = .pointer (some ⟨g2, 0, none⟩) ∧ w0.heap.size ≤ g2 ∧ Lies w g2 #[x2] 24 ∧ (t2 = true → v2 = .agg #[x2])) ∧
    (n1 = true → n2 = true → g1 ≠ g2) ∧ Below w0.heap.size w0 w ∧ (t1 = true → n1 = true ∧ c1 = true) ∧ (t2 = true → n2 = true ∧ c2 = true)
def sigRow (r : List Nat) (c1 c2 n1 n2 t1 t2 : Bool) : Bool :=
  r.all (fun i => (i == 2 && !c1) || (i == 5 && !c2) || (i == 6 && !n1) || (i == 7 && !n2) || (i == 8 && !t1 && c1 && n1) || (i == 9 && !t2 && c2 && n2)) && (!r.isEmpty || (c1 && c2 && n1 && n2 && t1 && t2))
def sigReadyB (ops : Array Oper) : Bool :=
  [false, true].all fun c1 => [false, true].all fun c2 => [false, true].all fun n1 => [false, true].all fun n2 => [false, true].all fun t1 => [false, true].all fun t2 =>
    sigRow (Region.ready .any ops #[true, true, c1, true, true, c2, n1, n2, t1, t2]) c1 c2 n1 n2 t1 t2
theorem sig_ready {ops : Array Oper} (h : sigReadyB ops = true) (c1 c2 n1 n2 t1 t2 : Bool) :
    (∀ i ∈ Region.ready .any ops #[true, true, c1, true, true, c2, n1, n2, t1, t2],
      i = 2 ∧ c1 = false ∨ i = 5 ∧ c2 = false ∨ i = 6 ∧ n1 = false ∨ i = 7 ∧ n2 = false ∨ i = 8 ∧ t1 = false ∧ c1 = true ∧ n1 = true ∨ i = 9 ∧ t2 = false ∧ c2 = true ∧ n2 = true) ∧
    (Region.ready .any ops #[true, true, c1, true, true, c2, n1, n2, t1, t2] = [] → c1 = true ∧ c2 = true ∧ n1 = true ∧ n2 = true ∧ t1 = true ∧ t2 = true) := by
  have h2 := all_two (all_two (all_two (all_two (all_two (all_two h c1) c2) n1) n2) t1) t2
  generalize Region.ready .any ops #[true, true, c1, true, true, c2, n1, n2, t1, t2] = r at h2 ⊢
  unfold sigRow at h2
  rw [Bool.and_eq_true, List.all_eq_true] at h2
  refine ⟨fun i hi => ?_, fun e => ?_⟩
  · have := h2.1 i hi
    simp only [Bool.or_eq_true, Bool.and_eq_true, beq_iff_eq, Bool.not_eq_true'] at this
    rcases this with ((((h | h) | h) | h) | h) | h
    · exact .inl h
    · exact .inr (.inl h)
    · exact .inr (.inr (.inl h))
    · exact .inr (.inr (.inr (.inl h)))
    · exact .inr (.inr (.inr (.inr (.inl ⟨h.1.1.1, h.1.1.2, h.1.2, h.2⟩))))
    · exact .inr (.inr (.inr (.inr (.inr ⟨h.1.1.1, h.1.1.2, h.1.2, h.2⟩))))
  · have := h2.2
    subst e
    simp only [List.isEmpty_nil, Bool.not_true, Bool.false_or, Bool.and_eq_true] at this
    exact ⟨this.1.1.1.1.1, this.1.1.1.1.2, this.1.1.1.2, this.1.1.2, this.1.2, this.2⟩
theorem signs2_any {ops : Array Oper} {Q : Exit → Act → World → Prop} (w0 : World) (F1 F2 : List UInt8) (a0 : Act) (s1 s2 p1 p2 : Tmp)
    (h12 : s1 ≠ s2) (h13 : s1 ≠ p1) (h14 : s1 ≠ p2) (h23 : s2 ≠ p1) (h24 : s2 ≠ p2) (h34 : p1 ≠ p2) (z1 : s1 < a0.tmps.size) (z2 : s2 < a0.tmps.size) (z3 : p1 < a0.tmps.size) (z4 : p2 < a0.tmps.size)
    (f : FuncId) (args1 args2 : Array Value) (o2 o5 o6 o7 o8 o9 : Oper)
    (i2 : ops[2]? = some o2) (gd2 : o2.guard = none) (d2 : o2.dst = some s1) (r2 : ∀ v1 v2 v3 v4 w, (execOp (put4 a0 s1 s2 p1 p2 v1 v2 v3 v4).eval o2).run Tryd.prog w = .ok (.enter f args1) w)
    (i5 : ops[5]? = some o5) (gd5 : o5.guard = none) (d5 : o5.dst = some s2) (r5 : ∀ v1 v2 v3 v4 w, (execOp (put4 a0 s1 s2 p1 p2 v1 v2 v3 v4).eval o5).run Tryd.prog w = .ok (.enter f args2) w)
    (i6 : ops[6]? = some o6) (gd6 : o6.guard = none) (d6 : o6.dst = some p1) (op6 : o6.op = .alloc 24)
    (i7 : ops[7]? = some o7) (gd7 : o7.guard = none) (d7 : o7.dst = some p2) (op7 : o7.op = .alloc 24)
    (i8 : ops[8]? = some o8) (gd8 : o8.guard = none) (d8 : o8.dst = none) (op8 : o8.op = .store 24 (.tmp p1) (.tmp s1))
    (i9 : ops[9]? = some o9) (gd9 : o9.guard = none) (d9 : o9.dst = none) (op9 : o9.op = .store 24 (.tmp p2) (.tmp s2))
    (hr : sigReadyB ops = true)
    (hc1 : ∀ W, Below w0.heap.size w0 W → Calls Tryd.prog f args1 W fun e w' => ∃ v, e = .returned v ∧ SigV F1 v w' ∧ Below W.heap.size W w')
    (hc2 : ∀ W, Below w0.heap.size w0 W → Calls Tryd.prog f args2 W fun e w' => ∃ v, e = .returned v ∧ SigV F2 v w' ∧ Below W.heap.size W w')
    (hQ : ∀ v1 v2 g1 g2 x1 x2 w', w0.heap.size ≤ g1 → w0.heap.size ≤ g2 → SigV F1 (.agg #[x1]) w' → SigV F2 (.agg #[x2]) w' → Lies w' g1 #[x1] 24 → Lies w' g2 #[x2] 24 → Below w0.heap.size w0 w' →
      Q .normal (put4 a0 s1 s2 p1 p2 v1 v2 (.pointer (some ⟨g1, 0, none⟩)) (.pointer (some ⟨g2, 0, none⟩))) w')
    (w : World) (hb : Below w0.heap.size w0 w) : wpAnyH Tryd.prog .any ops Q (Below w0.heap.size w0) 6 #[true, true, false, true, true, false, false, false, false, false] a0 w := by
  refine wpAnyH_inv (SigI w0 F1 F2 a0 s1 s2 p1 p2) ?_ ?_ 6 _ _ _ (by decide) ?_
  · rintro l a w1 ⟨c1, c2, n1, n2, t1, t2, rfl, v1, v2, v3, v4, g1, g2, x1, x2, rfl, k1, k2, k3, k4, k5, k6, _, _⟩ hnil
    obtain ⟨rfl, rfl, rfl, rfl, rfl, rfl⟩ := (sig_ready hr c1 c2 n1 n2 t1 t2).2 hnil
    obtain ⟨rfl, b1, y1, e1⟩ := k3 rfl
    obtain ⟨rfl, b2, y2, e2⟩ := k4 rfl
    have q1 := k1 rfl
    have q2 := k2 rfl
    rw [e1 rfl] at q1
    rw [e2 rfl] at q2
    exact hQ _ _ g1 g2 x1 x2 w1 b1 b2 q1 q2 y1 y2 k6
  · rintro l a w1 i ⟨c1, c2, n1, n2, t1, t2, rfl, v1, v2, v3, v4, g1, g2, x1, x2, rfl, k1, k2, k3, k4, k5, k6, k8, k9⟩ hi
    rcases (sig_ready hr c1 c2 n1 n2 t1 t2).1 i hi with ⟨rfl, e⟩ | ⟨rfl, e⟩ | ⟨rfl, e⟩ | ⟨rfl, e⟩ | ⟨rfl, e, e1, e2⟩ | ⟨rfl, e, e1, e2⟩
    · refine wpOp_call i2 gd2 f args1 (r2 _ _ _ _ _) (fun v w' => SigV F1 v w' ∧ Below w1.heap.size w1 w') (hc1 w1 k6) ?_
      rintro v w' ⟨hv, hb'⟩
      rw [d2, put4_1 _ _ _ _ _ _ _ _ _ _ h12 h13 h14]
      have ht : t1 = false := by
        cases t1
        · rfl
        · have := (k8 rfl).2; rw [e] at this; cases this
      subst ht
      have hb2 := k6.trans (hb'.mono k6.size)
      refine ⟨hb2, true, c2, n1, n2, false, t2, rfl, v, v2, v3, v4, g1, g2, x1, x2, rfl, fun _ => hv, fun h => (k2 h).below hb', fun h => ?_, fun h => ?_, k5, hb2, fun h => (by cases h), k9⟩
      · exact ⟨(k3 h).1, (k3 h).2.1, (k3 h).2.2.1.below hb' (k3 h).2.2.1.lt, fun h => (by cases h)⟩
      · exact ⟨(k4 h).1, (k4 h).2.1, (k4 h).2.2.1.below hb' (k4 h).2.2.1.lt, (k4 h).2.2.2⟩
    · refine wpOp_call i5 gd5 f args2 (r5 _ _ _ _ _) (fun v w' => SigV F2 v w' ∧ Below w1.heap.size w1 w') (hc2 w1 k6) ?_
      rintro v w' ⟨hv, hb'⟩
      rw [d5, put4_2 _ _ _ _ _ _ _ _ _ _ h23 h24]
      have ht : t2 = false := by
        cases t2
        · rfl
        · have := (k9 rfl).2; rw [e] at this; cases this
      subst ht
      have hb2 := k6.trans (hb'.mono k6.size)
      refine ⟨hb2, c1, true, n1, n2, t1, false, rfl, v1, v, v3, v4, g1, g2, x1, x2, rfl, fun h => (k1 h).below hb', fun _ => hv, fun h => ?_, fun h => ?_, k5, hb2, k8, fun h => (by cases h)⟩
      · exact ⟨(k3 h).1, (k3 h).2.1, (k3 h).2.2.1.below hb' (k3 h).2.2.1.lt, (k3 h).2.2.2⟩
      · exact ⟨(k4 h).1, (k4 h).2.1, (k4 h).2.2.1.below hb' (k4 h).2.2.1.lt, fun h => (by cases h)⟩
    · refine wpOp_wp i6 gd6 (wp_alloc24 op6 ?_)
      rw [d6, put4_3 _ _ _ _ _ _ _ _ _ _ h34]
      have ht : t1 = false := by
        cases t1
        · rfl
        · have := (k8 rfl).1; rw [e] at this; cases this
      subst ht
      have hb2 := k6.alloc k6.size (.cells #[.slice none 0 0] 24)
      refine ⟨hb2, c1, c2, true, n2, false, t2, rfl, v1, v2, _, v4, w1.heap.size, g2, _, x2, rfl, fun h => (k1 h).alloc _, fun h => (k2 h).alloc _, fun _ => ⟨rfl, k6.size, Lies.new w1 _ 24, fun h => (by cases h)⟩, fun h => ?_, fun _ h2 he => ?_, hb2, (fun h => by cases h), k9⟩
      · exact ⟨(k4 h).1, (k4 h).2.1, (k4 h).2.2.1.alloc _, (k4 h).2.2.2⟩
      · have := (k4 h2).2.2.1.lt; omega
    · refine wpOp_wp i7 gd7 (wp_alloc24 op7 ?_)
      rw [d7, put4_4]
      have ht : t2 = false := by
        cases t2
        · rfl
        · have := (k9 rfl).1; rw [e] at this; cases this
      subst ht
      have hb2 := k6.alloc k6.size (.cells #[.slice none 0 0] 24)
      refine ⟨hb2, c1, c2, n1, true, t1, false, rfl, v1, v2, v3, _, g1, w1.heap.size, x1, _, rfl, fun h => (k1 h).alloc _, fun h => (k2 h).alloc _, fun h => ?_, fun _ => ⟨rfl, k6.size, Lies.new w1 _ 24, fun h => (by cases h)⟩, fun h1 _ he => ?_, hb2, k8, (fun h => by cases h)⟩
      · exact ⟨(k3 h).1, (k3 h).2.1, (k3 h).2.2.1.alloc _, (k3 h).2.2.2⟩
      · have := (k3 h1).2.2.1.lt; omega
    · obtain ⟨rfl, b1, y1, _⟩ := k3 e2
      subst e e1 e2
      obtain ⟨g, c, cs, rfl, hcs, hF⟩ := k1 rfl
      refine wpOp_wp i8 gd8 (wp_store_row 24 (.tmp p1) (.tmp s1) op8 g1 #[.slice (some ⟨g, 0, none⟩) 35 c] (eval4_3 _ _ _ _ _ _ _ _ _ (Ne.symm h34) z3) (eval4_1 _ _ _ _ _ _ _ _ _ (Ne.symm h12) (Ne.symm h13) (Ne.symm h14) z1) 24 _ y1 info24 rfl (by simp [Value.oneCell']) ?_)
      rw [d8]
      have hb2 := below_setRow k6 g1 #[.slice (some ⟨g, 0, none⟩) 35 c] b1
      refine ⟨hb2, true, c2, true, n2, true, t2, rfl, _, v2, _, v4, g1, g2, .slice (some ⟨g, 0, none⟩) 35 c, x2, rfl, fun _ => SigV.setRow ⟨g, c, cs, rfl, hcs, hF⟩ y1 _, fun h => (k2 h).setRow y1 _, fun _ => ⟨rfl, b1, y1.setRow _, fun _ => rfl⟩, fun h => ?_, k5, hb2, fun _ => ⟨rfl, rfl⟩, k9⟩
      exact ⟨(k4 h).1, (k4 h).2.1, (k4 h).2.2.1.setRowOther _ _ (Ne.symm (k5 rfl h)), (k4 h).2.2.2⟩
    · obtain ⟨rfl, b2, y2, _⟩ := k4 e2
      subst e e1 e2
      obtain ⟨g, c, cs, rfl, hcs, hF⟩ := k2 rfl
      refine wpOp_wp i9 gd9 (wp_store_row 24 (.tmp p2) (.tmp s2) op9 g2 #[.slice (some ⟨g, 0, none⟩) 35 c] (eval4_4 _ _ _ _ _ _ _ _ _ z4) (eval4_2 _ _ _ _ _ _ _ _ _ (Ne.symm h23) (Ne.symm h24) z2) 24 _ y2 info24 rfl (by simp [Value.oneCell']) ?_)
      rw [d9]
      have hb2 := below_setRow k6 g2 #[.slice (some ⟨g, 0, none⟩) 35 c] b2
      refine ⟨hb2, c1, true, n1, true, t1, true, rfl, v1, _, v3, _, g1, g2, x1, .slice (some ⟨g, 0, none⟩) 35 c, rfl, fun h => (k1 h).setRow y2 _, fun _ => SigV.setRow ⟨g, c, cs, rfl, hcs, hF⟩ y2 _, fun h => ?_, fun _ => ⟨rfl, b2, y2.setRow _, fun _ => rfl⟩, k5, hb2, k8, fun _ => ⟨rfl, rfl⟩⟩
      exact ⟨(k3 h).1, (k3 h).2.1, (k3 h).2.2.1.setRowOther _ _ (k5 h rfl), (k3 h).2.2.2⟩
  · obtain ⟨v1, v2, v3, v4, e⟩ := put4_self a0 s1 s2 p1 p2 h12 h13 h14 h23 h24 h34
    exact ⟨false, false, false, false, false, false, rfl, v1, v2, v3, v4, 0, 0, undef, undef, e, fun h => (by cases h), fun h => (by cases h), fun h => (by cases h), fun h => (by cases h), fun h => (by cases h), hb, fun h => (by cases h), fun h => (by cases h)⟩
end Go.Proofs.YtgempifedhiknaaDoor
