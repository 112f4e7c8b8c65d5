/-
  A region whose order Go leaves open, by what holds whenever a set of its operations has come up; then a pair of calls beside two new rows. No condition.
-/
import Derived.Test.YtgempifedhiknaaGreatDoorOf
import Derived.RegionTactic
namespace Go.Proofs.YtgempifedhiknaaGreatDoor
set_option maxRecDepth 100000
open Go.RowKit Sha

section
variable {P : Program} {ops : Array Oper} {Q : Exit → Act → World → Prop} {md : Region.Mode}
theorem count_true (l : Array Bool) (i : Nat) (h : l.getD i true = false) : (l.setIfInBounds i true).toList.count false + 1 = l.toList.count false := by
  have hi : i < l.size := by
    apply Decidable.byContradiction
    intro hn
    rw [Array.getD_eq_getD_getElem?, Array.getElem?_eq_none (by omega)] at h
    cases h
  have hv : l.toList[i]'(by simpa using hi) = false := by
    rw [Array.getD_eq_getD_getElem?, Array.getElem?_eq_getElem hi] at h
    simpa using h
  rw [Array.toList_setIfInBounds, List.count_set (by simpa using hi), hv]
  have hm : false ∈ l.toList := by rw [← hv]; exact List.getElem_mem _
  have hp : 0 < l.toList.count false := List.count_pos_iff.2 hm
  generalize l.toList.count false = c at hp ⊢
  have e : (if (true == false) = true then 1 else 0 : Nat) = 0 := rfl
  have e2 : (if (false == false) = true then 1 else 0 : Nat) = 1 := rfl
  rw [e, e2]
  omega
/-- What holds at each set of operations holds to the end. -/
theorem wpAny_inv (I : Array Bool → Act → World → Prop) (hdone : ∀ l a w, I l a w → Region.ready md ops l = [] → Q .normal a w)
    (hstep : ∀ l a w i, I l a w → i ∈ Region.ready md ops l → wpOp P ops Q i (I (l.setIfInBounds i true)) a w) :
    ∀ fuel l a w, l.toList.count false ≤ fuel → I l a w → wpAny P md ops Q fuel l a w := by
  intro fuel
  induction fuel with
  | zero =>
    intro l a w hc hI
    have hr : Region.ready md ops l = [] := by
      rw [List.eq_nil_iff_forall_not_mem]
      intro i hi
      have := count_true l i (mem_ready.1 hi).1
      omega
    exact ⟨hr, hdone _ _ _ hI hr⟩
  | succ fuel ih =>
    intro l a w hc hI
    refine ⟨fun h => hdone _ _ _ hI h, fun i hi => wpOp_mono (fun a' w' h' => ih _ a' w' ?_ h') (hstep l a w i hI hi)⟩
    have := count_true l i (mem_ready.1 hi).1
    omega
end

section
variable {P : Program} {ops : Array Oper} {Q : Exit → Act → World → Prop} {md : Region.Mode}
/-- An operation that yields its value in whatever world, taken first; its slot is said. -/
theorem wpAny_takeTo {i : Nat} {oi : Oper} {v : Value} {fuel : Nat} {listed : Array Bool} {a : Act} {w : World} (hi : ops[i]? = some oi) (d : Tmp) (hd : oi.dst = some d)
    (hs : Region.noSelect ops = true) (hf : Region.free md ops listed i = true) (hr : (Region.ready md ops listed).contains i = true)
    (hQ : ∀ c a w, Q (.panic c) (a.put (some d) v) w → Q (.panic c) a w) (hg : oi.guard = none) (hy : ∀ w, (execOp a.eval oi).run P w = .ok (.value v) w)
    (l2 : Array Bool) (hl : listed.setIfInBounds i true = l2)
    (h : wpAny P md ops Q fuel l2 (a.put (some d) v) w) : wpAny P md ops Q (fuel + 1) listed a w := by
  subst hl
  rw [← hd] at h hQ
  exact wpAny_take hi hs hf hr hQ (Or.inl ⟨by simp [Region.wanted, hg], hy⟩) h
end

/-- A frame with four slots said. -/
def put4 (a : Act) (s1 s2 p1 p2 : Tmp) (v1 v2 v3 v4 : Value) : Act := (((a.put (some s1) v1).put (some s2) v2).put (some p1) v3).put (some p2) v4
theorem put_twice (a : Act) (s : Tmp) (u v : Value) : (a.put (some s) u).put (some s) v = a.put (some s) v := by simp [Act.put]
theorem put_turn (a : Act) (s t : Tmp) (u v : Value) (h : s ≠ t) : (a.put (some s) u).put (some t) v = (a.put (some t) v).put (some s) u := by
  simp only [Act.put]; rw [Array.setIfInBounds_comm _ _ h]
theorem put4_1 (a : Act) (s1 s2 p1 p2 : Tmp) (v1 v2 v3 v4 v : Value) (h2 : s1 ≠ s2) (h3 : s1 ≠ p1) (h4 : s1 ≠ p2) : (put4 a s1 s2 p1 p2 v1 v2 v3 v4).put (some s1) v = put4 a s1 s2 p1 p2 v v2 v3 v4 := by
  unfold put4
  rw [put_turn _ p2 s1 _ _ (Ne.symm h4), put_turn _ p1 s1 _ _ (Ne.symm h3), put_turn _ s2 s1 _ _ (Ne.symm h2), put_twice]
theorem put4_2 (a : Act) (s1 s2 p1 p2 : Tmp) (v1 v2 v3 v4 v : Value) (h3 : s2 ≠ p1) (h4 : s2 ≠ p2) : (put4 a s1 s2 p1 p2 v1 v2 v3 v4).put (some s2) v = put4 a s1 s2 p1 p2 v1 v v3 v4 := by
  unfold put4
  rw [put_turn _ p2 s2 _ _ (Ne.symm h4), put_turn _ p1 s2 _ _ (Ne.symm h3), put_twice]
theorem put4_3 (a : Act) (s1 s2 p1 p2 : Tmp) (v1 v2 v3 v4 v : Value) (h4 : p1 ≠ p2) : (put4 a s1 s2 p1 p2 v1 v2 v3 v4).put (some p1) v = put4 a s1 s2 p1 p2 v1 v2 v v4 := by
  unfold put4
  rw [put_turn _ p2 p1 _ _ (Ne.symm h4), put_twice]
theorem put4_4 (a : Act) (s1 s2 p1 p2 : Tmp) (v1 v2 v3 v4 v : Value) : (put4 a s1 s2 p1 p2 v1 v2 v3 v4).put (some p2) v = put4 a s1 s2 p1 p2 v1 v2 v3 v := by
  unfold put4
  rw [put_twice]

theorem alloc27 (w : World) : (Instr.alloc 24 true (.tuple #[])).run Tryz.prog w = .ok (.pointer (some ⟨w.heap.size, 0, none⟩)) (w.alloc (.cells z32 24)) := by kernel_rfl
theorem info27 : (Tryz.prog.info? 24).map (·.size) = some 32 := by kernel_rfl

/-- What has come up of: two calls, two new rows, two stores. -/
def PairI (B : Nat) (w0 : World) (R1 R2 : List UInt8) (a0 : Act) (s1 s2 p1 p2 : Tmp) (l : Array Bool) (a : Act) (w : World) : Prop :=
  ∃ c1 c2 n1 n2 t1 t2 : Bool, l = #[true, true, true, c1, true, true, true, c2, n1, n2, t1, t2] ∧ ∃ (v1 v2 v3 v4 : Value) (g1 g2 : Nat), a = put4 a0 s1 s2 p1 p2 v1 v2 v3 v4 ∧
    (c1 = true → v1 = .agg (B8 R1)) ∧ (c2 = true → v2 = .agg (B8 R2)) ∧
    (n1 = true → v3 = .pointer (some ⟨g1, 0, none⟩) ∧ B ≤ g1 ∧ Lies w g1 (if t1 then B8 R1 else z32) 24) ∧
    (n2 = true → v4 = .pointer (some ⟨g2, 0, none⟩) ∧ B ≤ g2 ∧ Lies w g2 (if t2 then B8 R2 else z32) 24) ∧
    (n1 = true → n2 = true → g1 ≠ g2) ∧ Below B w0 w ∧ B ≤ w.heap.size ∧ (t1 = true → n1 = true) ∧ (t2 = true → n2 = true)

/-- What may come up. -/
def PairReady (ops : Array Oper) : Prop := ∀ c1 c2 n1 n2 t1 t2 : Bool,
  (∀ i ∈ Region.ready .any ops #[true, true, true, c1, true, true, true, c2, n1, n2, t1, t2],
    i = 3 ∧ c1 = false ∨ i = 7 ∧ c2 = false ∨ i = 8 ∧ n1 = false ∨ i = 9 ∧ n2 = false ∨ i = 10 ∧ t1 = false ∧ c1 = true ∧ n1 = true ∨ i = 11 ∧ t2 = false ∧ c2 = true ∧ n2 = true) ∧
  (Region.ready .any ops #[true, true, true, c1, true, true, true, c2, n1, n2, t1, t2] = [] → c1 = true ∧ c2 = true ∧ n1 = true ∧ n2 = true ∧ t1 = true ∧ t2 = true)


/-- The same, for the kernel. -/
def pairRow (r : List Nat) (c1 c2 n1 n2 t1 t2 : Bool) : Bool :=
  r.all (fun i => (i == 3 && !c1) || (i == 7 && !c2) || (i == 8 && !n1) || (i == 9 && !n2) || (i == 10 && !t1 && c1 && n1) || (i == 11 && !t2 && c2 && n2)) && (!r.isEmpty || (c1 && c2 && n1 && n2 && t1 && t2))
def pairReadyB (ops : Array Oper) : Bool :=
  [false, true].all fun c1 => [false, true].all fun c2 => [false, true].all fun n1 => [false, true].all fun n2 => [false, true].all fun t1 => [false, true].all fun t2 =>
    pairRow (Region.ready .any ops #[true, true, true, c1, true, true, true, c2, n1, n2, t1, t2]) c1 c2 n1 n2 t1 t2
theorem all_two {p : Bool → Bool} (h : [false, true].all p = true) (b : Bool) : p b = true := by
  simp at h
  cases b
  · exact h.1
  · exact h.2
theorem PairReady.of {ops : Array Oper} (h : pairReadyB ops = true) : PairReady ops := by
  intro c1 c2 n1 n2 t1 t2
  have h2 := all_two (all_two (all_two (all_two (all_two (all_two h c1) c2) n1) n2) t1) t2
  generalize Region.ready .any ops #[true, true, true, c1, true, true, true, c2, n1, n2, t1, t2] = r at h2 ⊢
  unfold pairRow at h2
  rw [Bool.and_eq_true, List.all_eq_true] at h2
  refine ⟨fun i hi => ?_, fun e => ?_⟩
  · have := h2.1 i hi
    simp only [Bool.or_eq_true, Bool.and_eq_true, beq_iff_eq, Bool.not_eq_true'] at this
    rcases this with ((((h | h) | h) | h) | h) | h
    · exact .inl h
    · exact .inr (.inl h)
    · exact .inr (.inr (.inl h))
    · exact .inr (.inr (.inr (.inl h)))
    · exact .inr (.inr (.inr (.inr (.inl ⟨h.1.1.1, h.1.1.2, h.1.2, h.2⟩))))
    · exact .inr (.inr (.inr (.inr (.inr ⟨h.1.1.1, h.1.1.2, h.1.2, h.2⟩))))
  · have := h2.2
    subst e
    simp only [List.isEmpty_nil, Bool.not_true, Bool.false_or, Bool.and_eq_true] at this
    exact ⟨this.1.1.1.1.1, this.1.1.1.1.2, this.1.1.1.2, this.1.1.2, this.1.2, this.2⟩

theorem put_self (a : Act) (s : Tmp) : a.put (some s) (a.tmps.getD s undef) = a := by
  cases a with
  | mk tmps defers =>
    simp only [Act.put]
    congr 1
    apply Array.ext
    · simp
    · intro i h1 h2
      rw [Array.getElem_setIfInBounds (by simpa using h2)]
      split
      · rename_i h; subst h; simp [Array.getD_eq_getD_getElem?, h2]
      · rfl
theorem put4_self (a : Act) (s1 s2 p1 p2 : Tmp) (h12 : s1 ≠ s2) (h13 : s1 ≠ p1) (h14 : s1 ≠ p2) (h23 : s2 ≠ p1) (h24 : s2 ≠ p2) (h34 : p1 ≠ p2) : ∃ v1 v2 v3 v4, a = put4 a s1 s2 p1 p2 v1 v2 v3 v4 := by
  have _ := And.intro h12 (And.intro h13 (And.intro h14 (And.intro h23 (And.intro h24 h34))))
  refine ⟨a.tmps.getD s1 undef, a.tmps.getD s2 undef, a.tmps.getD p1 undef, a.tmps.getD p2 undef, ?_⟩
  unfold put4
  rw [put_self, put_self, put_self, put_self]
theorem eval_put_same (a : Act) (s : Tmp) (v : Value) (h : s < a.tmps.size) : (a.put (some s) v).eval (.tmp s) = v := by
  simp [Act.put, Act.eval, Array.getD_eq_getD_getElem?, h]
theorem eval_put_other (a : Act) (s t : Tmp) (v : Value) (h : s ≠ t) : (a.put (some s) v).eval (.tmp t) = a.eval (.tmp t) :=
  Act.eval_put (fun d hd => by intro e; injection e with e; injection hd with hd; exact h (hd.trans e.symm))
theorem put_size (a : Act) (s : Tmp) (v : Value) : (a.put (some s) v).tmps.size = a.tmps.size := by simp [Act.put]
theorem eval4_1 (a : Act) (s1 s2 p1 p2 : Tmp) (v1 v2 v3 v4 : Value) (h2 : s2 ≠ s1) (h3 : p1 ≠ s1) (h4 : p2 ≠ s1) (h : s1 < a.tmps.size) : (put4 a s1 s2 p1 p2 v1 v2 v3 v4).eval (.tmp s1) = v1 := by
  unfold put4
  rw [eval_put_other _ _ _ _ h4, eval_put_other _ _ _ _ h3, eval_put_other _ _ _ _ h2, eval_put_same _ _ _ h]
theorem eval4_2 (a : Act) (s1 s2 p1 p2 : Tmp) (v1 v2 v3 v4 : Value) (h3 : p1 ≠ s2) (h4 : p2 ≠ s2) (h : s2 < a.tmps.size) : (put4 a s1 s2 p1 p2 v1 v2 v3 v4).eval (.tmp s2) = v2 := by
  unfold put4
  rw [eval_put_other _ _ _ _ h4, eval_put_other _ _ _ _ h3, eval_put_same _ _ _ (by rw [put_size]; exact h)]
theorem eval4_3 (a : Act) (s1 s2 p1 p2 : Tmp) (v1 v2 v3 v4 : Value) (h4 : p2 ≠ p1) (h : p1 < a.tmps.size) : (put4 a s1 s2 p1 p2 v1 v2 v3 v4).eval (.tmp p1) = v3 := by
  unfold put4
  rw [eval_put_other _ _ _ _ h4, eval_put_same _ _ _ (by rw [put_size, put_size]; exact h)]
theorem eval4_4 (a : Act) (s1 s2 p1 p2 : Tmp) (v1 v2 v3 v4 : Value) (h : p2 < a.tmps.size) : (put4 a s1 s2 p1 p2 v1 v2 v3 v4).eval (.tmp p2) = v4 := by
  unfold put4
  rw [eval_put_same _ _ _ (by rw [put_size, put_size, put_size]; exact h)]

section
variable {P : Program} {ops : Array Oper} {Q : Exit → Act → World → Prop}
theorem wanted_bare {o : Oper} {a : Act} (hg : o.guard = none) : Region.wanted o (yielded ops a.tmps) = true := by simp [Region.wanted, hg]
theorem wpOp_call {i : Nat} {o : Oper} {a : Act} {w : World} {K : Act → World → Prop} (hi : ops[i]? = some o) (hg : o.guard = none) (f : FuncId) (args : Array Value)
    (hr : (execOp a.eval o).run P w = .ok (.enter f args) w) (R : Value → World → Prop) (hc : Calls P f args w fun e w' => ∃ v, e = .returned v ∧ R v w') (h : ∀ v w', R v w' → K (a.put o.dst v) w') : wpOp P ops Q i K a w := by
  unfold wpOp
  rw [hi]
  show if Region.wanted o (yielded ops a.tmps) = true then _ else _
  rw [if_pos (wanted_bare hg)]
  refine .inl ?_
  unfold Oper.wp
  rw [hr, Oper.upon_enter]
  refine hc.mono fun e w' hh => ?_
  obtain ⟨v, rfl, hR⟩ := hh
  exact h v w' hR
theorem wpOp_wp {i : Nat} {o : Oper} {a : Act} {w : World} {K : Act → World → Prop} (hi : ops[i]? = some o) (hg : o.guard = none) (h : o.wp P a w K Q) : wpOp P ops Q i K a w := by
  unfold wpOp
  rw [hi]
  show if Region.wanted o (yielded ops a.tmps) = true then _ else _
  rw [if_pos (wanted_bare hg)]
  exact .inl h
end
section
variable {P : Program} {ops : Array Oper} {Q : Exit → Act → World → Prop} {md : Region.Mode}
theorem wpAny_oneOp {i : Nat} {fuel : Nat} {listed : Array Bool} {a : Act} {w : World} (hr : Region.ready md ops listed = [i]) (l2 : Array Bool) (hl : listed.setIfInBounds i true = l2)
    (h : wpOp P ops Q i (wpAny P md ops Q fuel l2) a w) : wpAny P md ops Q (fuel + 1) listed a w := by
  subst hl
  refine wpAny_all hr (by simp) ?_
  intro j hj
  obtain rfl : j = i := by simpa using hj
  exact h
/-- The one operation that may come up, and it yields a value. -/
theorem wpAny_valueTo {i : Nat} {oi : Oper} {fuel : Nat} {listed : Array Bool} {a : Act} {w : World} (hi : ops[i]? = some oi) (hg : oi.guard = none) (d : Tmp) (hd : oi.dst = some d)
    (hr : Region.ready md ops listed = [i]) (l2 : Array Bool) (hl : listed.setIfInBounds i true = l2) (v : Value) (w' : World) (hrun : (execOp a.eval oi).run P w = .ok (.value v) w')
    (h : wpAny P md ops Q fuel l2 (a.put (some d) v) w') : wpAny P md ops Q (fuel + 1) listed a w := by
  refine wpAny_oneOp hr l2 hl (wpOp_wp hi hg ?_)
  unfold Oper.wp
  rw [hrun, Oper.upon_value, hd]
  exact h
/-- The one operation that may come up, and it calls a function. -/
theorem wpAny_callTo {i : Nat} {oi : Oper} {fuel : Nat} {listed : Array Bool} {a : Act} {w : World} (hi : ops[i]? = some oi) (hg : oi.guard = none) (d : Tmp) (hd : oi.dst = some d)
    (hr : Region.ready md ops listed = [i]) (l2 : Array Bool) (hl : listed.setIfInBounds i true = l2) (f : FuncId) (args : Array Value) (hrun : (execOp a.eval oi).run P w = .ok (.enter f args) w)
    (R : Value → World → Prop) (hc : Calls P f args w fun e w' => ∃ v, e = .returned v ∧ R v w')
    (h : ∀ v w', R v w' → wpAny P md ops Q fuel l2 (a.put (some d) v) w') : wpAny P md ops Q (fuel + 1) listed a w := by
  refine wpAny_oneOp hr l2 hl (wpOp_call hi hg f args hrun R hc ?_)
  rw [hd]
  exact h
/-- The one operation that may come up, and it stores a row. -/
theorem wpAny_storeTo {i : Nat} {oi : Oper} {fuel : Nat} {listed : Array Bool} {a : Act} {w : World} (hi : ops[i]? = some oi) (hg : oi.guard = none) (hd : oi.dst = none)
    (hr : Region.ready md ops listed = [i]) (l2 : Array Bool) (hl : listed.setIfInBounds i true = l2) (ty : TypeId) (x y : Operand) (ho : oi.op = .store ty x y)
    (g : Nat) (cells : Array Value) (hx : a.eval x = .pointer (some ⟨g, 0, none⟩)) (hy : a.eval y = .agg cells)
    (t : TypeId) (old : Array Value) (hgo : w.heap[g]? = some (.cells old t (0, 0))) (hin : (P.info? ty).map (·.size) = some cells.size)
    (hold : old.size = cells.size) (h1 : cells.all (·.oneCell') = true)
    (h : wpAny P md ops Q fuel l2 a (w.setRow g cells)) : wpAny P md ops Q (fuel + 1) listed a w := by
  refine wpAny_oneOp hr l2 hl (wpOp_wp hi hg (wp_store_row ty x y ho g cells hx hy t old hgo hin hold h1 ?_))
  rw [hd]
  exact h
end
theorem wp_alloc27 {Q : Exit → Act → World → Prop} {o : Oper} {a : Act} {w : World} {K : Act → World → Prop} (ho : o.op = .alloc 24) (h : K (a.put o.dst (.pointer (some ⟨w.heap.size, 0, none⟩))) (w.alloc (.cells z32 24))) : o.wp Tryz.prog a w K Q := by
  unfold Oper.wp execOp
  simp only [ho, Sem.run_bind, alloc27, Result.andThen_ok, Sem.run_pure]
  exact h
theorem z32_size : z32.size = 32 := rfl

theorem pair_any {ops : Array Oper} {Q : Exit → Act → World → Prop} (w0 : World) (R1 R2 : List UInt8) (hR1 : R1.length = 32) (hR2 : R2.length = 32) (a0 : Act) (s1 s2 p1 p2 : Tmp)
    (h12 : s1 ≠ s2) (h13 : s1 ≠ p1) (h14 : s1 ≠ p2) (h23 : s2 ≠ p1) (h24 : s2 ≠ p2) (h34 : p1 ≠ p2) (z1 : s1 < a0.tmps.size) (z2 : s2 < a0.tmps.size) (z3 : p1 < a0.tmps.size) (z4 : p2 < a0.tmps.size)
    (f : FuncId) (args1 args2 : Array Value) (o3 o7 o8 o9 o10 o11 : Oper)
    (i3 : ops[3]? = some o3) (gd3 : o3.guard = none) (d3 : o3.dst = some s1) (r3 : ∀ v1 v2 v3 v4 w, (execOp (put4 a0 s1 s2 p1 p2 v1 v2 v3 v4).eval o3).run Tryz.prog w = .ok (.enter f args1) w)
    (i7 : ops[7]? = some o7) (gd7 : o7.guard = none) (d7 : o7.dst = some s2) (r7 : ∀ v1 v2 v3 v4 w, (execOp (put4 a0 s1 s2 p1 p2 v1 v2 v3 v4).eval o7).run Tryz.prog w = .ok (.enter f args2) w)
    (i8 : ops[8]? = some o8) (gd8 : o8.guard = none) (d8 : o8.dst = some p1) (op8 : o8.op = .alloc 24)
    (i9 : ops[9]? = some o9) (gd9 : o9.guard = none) (d9 : o9.dst = some p2) (op9 : o9.op = .alloc 24)
    (i10 : ops[10]? = some o10) (gd10 : o10.guard = none) (d10 : o10.dst = none) (op10 : o10.op = .store 24 (.tmp p1) (.tmp s1))
    (i11 : ops[11]? = some o11) (gd11 : o11.guard = none) (d11 : o11.dst = none) (op11 : o11.op = .store 24 (.tmp p2) (.tmp s2))
    (hr : PairReady ops)
    (hc1 : ∀ W, Below w0.heap.size w0 W → Calls Tryz.prog f args1 W fun e w' => e = .returned (.agg (B8 R1)) ∧ Below W.heap.size W w')
    (hc2 : ∀ W, Below w0.heap.size w0 W → Calls Tryz.prog f args2 W fun e w' => e = .returned (.agg (B8 R2)) ∧ Below W.heap.size W w')
    (hQ : ∀ g1 g2 w', w0.heap.size ≤ g1 → w0.heap.size ≤ g2 → g1 ≠ g2 → Lies w' g1 (B8 R1) 24 → Lies w' g2 (B8 R2) 24 → Below w0.heap.size w0 w' → Q .normal (put4 a0 s1 s2 p1 p2 (.agg (B8 R1)) (.agg (B8 R2)) (.pointer (some ⟨g1, 0, none⟩)) (.pointer (some ⟨g2, 0, none⟩))) w')
    (w : World) (hb : Below w0.heap.size w0 w) : wpAny Tryz.prog .any ops Q 6 #[true, true, true, false, true, true, true, false, false, false, false, false] a0 w := by
  refine wpAny_inv (PairI w0.heap.size w0 R1 R2 a0 s1 s2 p1 p2) ?_ ?_ 6 _ _ _ (by decide) ?_
  · rintro l a w1 ⟨c1, c2, n1, n2, t1, t2, rfl, v1, v2, v3, v4, g1, g2, rfl, k1, k2, k3, k4, k5, k6, _, _, _⟩ hnil
    obtain ⟨rfl, rfl, rfl, rfl, rfl, rfl⟩ := (hr c1 c2 n1 n2 t1 t2).2 hnil
    obtain ⟨rfl, b1, y1⟩ := k3 rfl
    obtain ⟨rfl, b2, y2⟩ := k4 rfl
    rw [k1 rfl, k2 rfl]
    exact hQ g1 g2 w1 b1 b2 (k5 rfl rfl) y1 y2 k6
  · rintro l a w1 i ⟨c1, c2, n1, n2, t1, t2, rfl, v1, v2, v3, v4, g1, g2, rfl, k1, k2, k3, k4, k5, k6, k7, k8, k9⟩ hi
    rcases (hr c1 c2 n1 n2 t1 t2).1 i hi with ⟨rfl, e⟩ | ⟨rfl, e⟩ | ⟨rfl, e⟩ | ⟨rfl, e⟩ | ⟨rfl, e, e1, e2⟩ | ⟨rfl, e, e1, e2⟩
    · refine wpOp_call i3 gd3 f args1 (r3 _ _ _ _ _) (fun v w' => v = .agg (B8 R1) ∧ Below w1.heap.size w1 w') ((hc1 w1 k6).mono fun e w' hh => ⟨_, hh.1, rfl, hh.2⟩) ?_
      rintro v w' ⟨rfl, hb'⟩
      rw [d3, put4_1 _ _ _ _ _ _ _ _ _ _ h12 h13 h14]
      refine ⟨true, c2, n1, n2, t1, t2, rfl, _, v2, v3, v4, g1, g2, rfl, fun _ => rfl, k2, fun h => ?_, fun h => ?_, k5, k6.trans (hb'.mono k7), Nat.le_trans k7 hb'.size, k8, k9⟩
      · exact ⟨(k3 h).1, (k3 h).2.1, (k3 h).2.2.below hb' (k3 h).2.2.lt⟩
      · exact ⟨(k4 h).1, (k4 h).2.1, (k4 h).2.2.below hb' (k4 h).2.2.lt⟩
    · refine wpOp_call i7 gd7 f args2 (r7 _ _ _ _ _) (fun v w' => v = .agg (B8 R2) ∧ Below w1.heap.size w1 w') ((hc2 w1 k6).mono fun e w' hh => ⟨_, hh.1, rfl, hh.2⟩) ?_
      rintro v w' ⟨rfl, hb'⟩
      rw [d7, put4_2 _ _ _ _ _ _ _ _ _ _ h23 h24]
      refine ⟨c1, true, n1, n2, t1, t2, rfl, v1, _, v3, v4, g1, g2, rfl, k1, fun _ => rfl, fun h => ?_, fun h => ?_, k5, k6.trans (hb'.mono k7), Nat.le_trans k7 hb'.size, k8, k9⟩
      · exact ⟨(k3 h).1, (k3 h).2.1, (k3 h).2.2.below hb' (k3 h).2.2.lt⟩
      · exact ⟨(k4 h).1, (k4 h).2.1, (k4 h).2.2.below hb' (k4 h).2.2.lt⟩
    · refine wpOp_wp i8 gd8 (wp_alloc27 op8 ?_)
      rw [d8, put4_3 _ _ _ _ _ _ _ _ _ _ h34]
      have ht : t1 = false := by
        cases t1
        · rfl
        · have := k8 rfl; rw [e] at this; cases this
      subst ht
      refine ⟨c1, c2, true, n2, false, t2, rfl, v1, v2, _, v4, w1.heap.size, g2, rfl, k1, k2, fun _ => ⟨rfl, k7, Lies.new w1 z32 24⟩, fun h => ?_, fun _ h2 he => ?_, k6.alloc k7 _, by simp; omega, (fun h => by cases h), k9⟩
      · exact ⟨(k4 h).1, (k4 h).2.1, (k4 h).2.2.alloc _⟩
      · have := (k4 h2).2.2.lt; omega
    · refine wpOp_wp i9 gd9 (wp_alloc27 op9 ?_)
      rw [d9, put4_4]
      have ht : t2 = false := by
        cases t2
        · rfl
        · have := k9 rfl; rw [e] at this; cases this
      subst ht
      refine ⟨c1, c2, n1, true, t1, false, rfl, v1, v2, v3, _, g1, w1.heap.size, rfl, k1, k2, fun h => ?_, fun _ => ⟨rfl, k7, Lies.new w1 z32 24⟩, fun h1 _ he => ?_, k6.alloc k7 _, by simp; omega, k8, (fun h => by cases h)⟩
      · exact ⟨(k3 h).1, (k3 h).2.1, (k3 h).2.2.alloc _⟩
      · have := (k3 h1).2.2.lt; omega
    · obtain ⟨rfl, b1, y1⟩ := k3 e2
      subst e e1 e2
      rw [k1 rfl]
      refine wpOp_wp i10 gd10 (wp_store_row 24 (.tmp p1) (.tmp s1) op10 g1 (B8 R1) (eval4_3 _ _ _ _ _ _ _ _ _ (Ne.symm h34) z3) (eval4_1 _ _ _ _ _ _ _ _ _ (Ne.symm h12) (Ne.symm h13) (Ne.symm h14) z1) 24 _ y1 (by rw [info27, B8_size, hR1]) (by rw [B8_size, hR1]; rfl) (B8_one _) ?_)
      rw [d10]
      refine ⟨true, c2, true, n2, true, t2, rfl, _, v2, _, v4, g1, g2, rfl, fun _ => rfl, k2, fun _ => ⟨rfl, b1, y1.setRow _⟩, fun h => ?_, k5, below_setRow k6 _ _ b1, by simpa using k7, fun _ => rfl, k9⟩
      exact ⟨(k4 h).1, (k4 h).2.1, (k4 h).2.2.setRowOther _ _ (Ne.symm (k5 rfl h))⟩
    · obtain ⟨rfl, b2, y2⟩ := k4 e2
      subst e e1 e2
      rw [k2 rfl]
      refine wpOp_wp i11 gd11 (wp_store_row 24 (.tmp p2) (.tmp s2) op11 g2 (B8 R2) (eval4_4 _ _ _ _ _ _ _ _ _ z4) (eval4_2 _ _ _ _ _ _ _ _ _ (Ne.symm h23) (Ne.symm h24) z2) 24 _ y2 (by rw [info27, B8_size, hR2]) (by rw [B8_size, hR2]; rfl) (B8_one _) ?_)
      rw [d11]
      refine ⟨c1, true, n1, true, t1, true, rfl, v1, _, v3, _, g1, g2, rfl, k1, fun _ => rfl, fun h => ?_, fun _ => ⟨rfl, b2, y2.setRow _⟩, k5, below_setRow k6 _ _ b2, by simpa using k7, k8, fun _ => rfl⟩
      exact ⟨(k3 h).1, (k3 h).2.1, (k3 h).2.2.setRowOther _ _ (k5 h rfl)⟩
  · obtain ⟨v1, v2, v3, v4, e⟩ := put4_self a0 s1 s2 p1 p2 h12 h13 h14 h23 h24 h34
    exact ⟨false, false, false, false, false, false, rfl, v1, v2, v3, v4, 0, 0, e, fun h => (by cases h), fun h => (by cases h), fun h => (by cases h), fun h => (by cases h), fun h => (by cases h), hb, hb.size, fun h => (by cases h), fun h => (by cases h)⟩
end Go.Proofs.YtgempifedhiknaaGreatDoor
