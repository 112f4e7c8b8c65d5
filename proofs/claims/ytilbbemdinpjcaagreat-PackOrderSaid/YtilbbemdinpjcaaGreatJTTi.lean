/-
  Regions whose order Go leaves open, by what holds whenever a set of their operations has come up; one operation at a time. No condition.
-/
import Derived.Test.YtilbbemdinpjcaaGreatJTTl
import Derived.Deep.RegionHeld3
namespace Go.Proofs.YtilbbemdinpjcaaGreat.T
open Go.RowKit

section
variable {P : Program} {ops : Array Oper} {Q : Exit → Act → World → Prop} {md : Region.Mode}
theorem count_true (l : Array Bool) (i : Nat) (h : l.getD i true = false) : (l.setIfInBounds i true).toList.count false + 1 = l.toList.count false := by
  have hi : i < l.size := by
    apply Decidable.byContradiction
    intro hn
    rw [Array.getD_eq_getD_getElem?, Array.getElem?_eq_none (by omega)] at h
    cases h
  have hv : l.toList[i]'(by simpa using hi) = false := by
    rw [Array.getD_eq_getD_getElem?, Array.getElem?_eq_getElem hi] at h
    simpa using h
  rw [Array.toList_setIfInBounds, List.count_set (by simpa using hi), hv]
  have hm : false ∈ l.toList := by rw [← hv]; exact List.getElem_mem _
  have hp : 0 < l.toList.count false := List.count_pos_iff.2 hm
  generalize l.toList.count false = c at hp ⊢
  have e : (if (true == false) = true then 1 else 0 : Nat) = 0 := rfl
  have e2 : (if (false == false) = true then 1 else 0 : Nat) = 1 := rfl
  rw [e, e2]
  omega
/-- What holds at each set of operations holds to the end. -/
theorem wpAny_inv (I : Array Bool → Act → World → Prop) (hdone : ∀ l a w, I l a w → Region.ready md ops l = [] → Q .normal a w)
    (hstep : ∀ l a w i, I l a w → i ∈ Region.ready md ops l → wpOp P ops Q i (I (l.setIfInBounds i true)) a w) :
    ∀ fuel l a w, l.toList.count false ≤ fuel → I l a w → wpAny P md ops Q fuel l a w := by
  intro fuel
  induction fuel with
  | zero =>
    intro l a w hc hI
    have hr : Region.ready md ops l = [] := by
      rw [List.eq_nil_iff_forall_not_mem]
      intro i hi
      have := count_true l i (mem_ready.1 hi).1
      omega
    exact ⟨hr, hdone _ _ _ hI hr⟩
  | succ fuel ih =>
    intro l a w hc hI
    refine ⟨fun h => hdone _ _ _ hI h, fun i hi => wpOp_mono (fun a' w' h' => ih _ a' w' ?_ h') (hstep l a w i hI hi)⟩
    have := count_true l i (mem_ready.1 hi).1
    omega
end

section
variable {P : Program} {ops : Array Oper} {Q : Exit → Act → World → Prop} {md : Region.Mode}
/-- An operation that yields its value in whatever world, taken first; its slot is said. -/
theorem wpAny_takeTo {i : Nat} {oi : Oper} {v : Value} {fuel : Nat} {listed : Array Bool} {a : Act} {w : World} (hi : ops[i]? = some oi) (d : Tmp) (hd : oi.dst = some d)
    (hs : Region.noSelect ops = true) (hf : Region.free md ops listed i = true) (hr : (Region.ready md ops listed).contains i = true)
    (hQ : ∀ c a w, Q (.panic c) (a.put (some d) v) w → Q (.panic c) a w) (hg : oi.guard = none) (hy : ∀ w, (execOp a.eval oi).run P w = .ok (.value v) w)
    (l2 : Array Bool) (hl : listed.setIfInBounds i true = l2)
    (h : wpAny P md ops Q fuel l2 (a.put (some d) v) w) : wpAny P md ops Q (fuel + 1) listed a w := by
  subst hl
  rw [← hd] at h hQ
  exact wpAny_take hi hs hf hr hQ (Or.inl ⟨by simp [Region.wanted, hg], hy⟩) h
end

/-- A frame with four slots said. -/
def put4 (a : Act) (s1 s2 p1 p2 : Tmp) (v1 v2 v3 v4 : Value) : Act := (((a.put (some s1) v1).put (some s2) v2).put (some p1) v3).put (some p2) v4
theorem put_twice (a : Act) (s : Tmp) (u v : Value) : (a.put (some s) u).put (some s) v = a.put (some s) v := by simp [Act.put]
theorem put_turn (a : Act) (s t : Tmp) (u v : Value) (h : s ≠ t) : (a.put (some s) u).put (some t) v = (a.put (some t) v).put (some s) u := by
  simp only [Act.put]; rw [Array.setIfInBounds_comm _ _ h]
theorem put4_1 (a : Act) (s1 s2 p1 p2 : Tmp) (v1 v2 v3 v4 v : Value) (h2 : s1 ≠ s2) (h3 : s1 ≠ p1) (h4 : s1 ≠ p2) : (put4 a s1 s2 p1 p2 v1 v2 v3 v4).put (some s1) v = put4 a s1 s2 p1 p2 v v2 v3 v4 := by
  unfold put4
  rw [put_turn _ p2 s1 _ _ (Ne.symm h4), put_turn _ p1 s1 _ _ (Ne.symm h3), put_turn _ s2 s1 _ _ (Ne.symm h2), put_twice]
theorem put4_2 (a : Act) (s1 s2 p1 p2 : Tmp) (v1 v2 v3 v4 v : Value) (h3 : s2 ≠ p1) (h4 : s2 ≠ p2) : (put4 a s1 s2 p1 p2 v1 v2 v3 v4).put (some s2) v = put4 a s1 s2 p1 p2 v1 v v3 v4 := by
  unfold put4
  rw [put_turn _ p2 s2 _ _ (Ne.symm h4), put_turn _ p1 s2 _ _ (Ne.symm h3), put_twice]
theorem put4_3 (a : Act) (s1 s2 p1 p2 : Tmp) (v1 v2 v3 v4 v : Value) (h4 : p1 ≠ p2) : (put4 a s1 s2 p1 p2 v1 v2 v3 v4).put (some p1) v = put4 a s1 s2 p1 p2 v1 v2 v v4 := by
  unfold put4
  rw [put_turn _ p2 p1 _ _ (Ne.symm h4), put_twice]
theorem put4_4 (a : Act) (s1 s2 p1 p2 : Tmp) (v1 v2 v3 v4 v : Value) : (put4 a s1 s2 p1 p2 v1 v2 v3 v4).put (some p2) v = put4 a s1 s2 p1 p2 v1 v2 v3 v := by
  unfold put4
  rw [put_twice]

theorem all_two {p : Bool → Bool} (h : [false, true].all p = true) (b : Bool) : p b = true := by
  simp at h
  cases b
  · exact h.1
  · exact h.2
theorem put_self (a : Act) (s : Tmp) : a.put (some s) (a.tmps.getD s undef) = a := by
  cases a with
  | mk tmps defers =>
    simp only [Act.put]
    congr 1
    apply Array.ext
    · simp
    · intro i h1 h2
      rw [Array.getElem_setIfInBounds (by simpa using h2)]
      split
      · rename_i h; subst h; simp [Array.getD_eq_getD_getElem?, h2]
      · rfl
theorem put4_self (a : Act) (s1 s2 p1 p2 : Tmp) (h12 : s1 ≠ s2) (h13 : s1 ≠ p1) (h14 : s1 ≠ p2) (h23 : s2 ≠ p1) (h24 : s2 ≠ p2) (h34 : p1 ≠ p2) : ∃ v1 v2 v3 v4, a = put4 a s1 s2 p1 p2 v1 v2 v3 v4 := by
  have _ := And.intro h12 (And.intro h13 (And.intro h14 (And.intro h23 (And.intro h24 h34))))
  refine ⟨a.tmps.getD s1 undef, a.tmps.getD s2 undef, a.tmps.getD p1 undef, a.tmps.getD p2 undef, ?_⟩
  unfold put4
  rw [put_self, put_self, put_self, put_self]
theorem eval_put_same (a : Act) (s : Tmp) (v : Value) (h : s < a.tmps.size) : (a.put (some s) v).eval (.tmp s) = v := by
  simp [Act.put, Act.eval, Array.getD_eq_getD_getElem?, h]
theorem eval_put_other (a : Act) (s t : Tmp) (v : Value) (h : s ≠ t) : (a.put (some s) v).eval (.tmp t) = a.eval (.tmp t) :=
  Act.eval_put (fun d hd => by intro e; injection e with e; injection hd with hd; exact h (hd.trans e.symm))
theorem put_size (a : Act) (s : Tmp) (v : Value) : (a.put (some s) v).tmps.size = a.tmps.size := by simp [Act.put]
theorem eval4_1 (a : Act) (s1 s2 p1 p2 : Tmp) (v1 v2 v3 v4 : Value) (h2 : s2 ≠ s1) (h3 : p1 ≠ s1) (h4 : p2 ≠ s1) (h : s1 < a.tmps.size) : (put4 a s1 s2 p1 p2 v1 v2 v3 v4).eval (.tmp s1) = v1 := by
  unfold put4
  rw [eval_put_other _ _ _ _ h4, eval_put_other _ _ _ _ h3, eval_put_other _ _ _ _ h2, eval_put_same _ _ _ h]
theorem eval4_2 (a : Act) (s1 s2 p1 p2 : Tmp) (v1 v2 v3 v4 : Value) (h3 : p1 ≠ s2) (h4 : p2 ≠ s2) (h : s2 < a.tmps.size) : (put4 a s1 s2 p1 p2 v1 v2 v3 v4).eval (.tmp s2) = v2 := by
  unfold put4
  rw [eval_put_other _ _ _ _ h4, eval_put_other _ _ _ _ h3, eval_put_same _ _ _ (by rw [put_size]; exact h)]
theorem eval4_3 (a : Act) (s1 s2 p1 p2 : Tmp) (v1 v2 v3 v4 : Value) (h4 : p2 ≠ p1) (h : p1 < a.tmps.size) : (put4 a s1 s2 p1 p2 v1 v2 v3 v4).eval (.tmp p1) = v3 := by
  unfold put4
  rw [eval_put_other _ _ _ _ h4, eval_put_same _ _ _ (by rw [put_size, put_size]; exact h)]
theorem eval4_4 (a : Act) (s1 s2 p1 p2 : Tmp) (v1 v2 v3 v4 : Value) (h : p2 < a.tmps.size) : (put4 a s1 s2 p1 p2 v1 v2 v3 v4).eval (.tmp p2) = v4 := by
  unfold put4
  rw [eval_put_same _ _ _ (by rw [put_size, put_size, put_size]; exact h)]

section
variable {P : Program} {ops : Array Oper} {Q : Exit → Act → World → Prop}
theorem wanted_bare {o : Oper} {a : Act} (hg : o.guard = none) : Region.wanted o (yielded ops a.tmps) = true := by simp [Region.wanted, hg]
theorem wpOp_call {i : Nat} {o : Oper} {a : Act} {w : World} {K : Act → World → Prop} (hi : ops[i]? = some o) (hg : o.guard = none) (f : FuncId) (args : Array Value)
    (hr : (execOp a.eval o).run P w = .ok (.enter f args) w) (R : Value → World → Prop) (hc : Calls P f args w fun e w' => ∃ v, e = .returned v ∧ R v w') (h : ∀ v w', R v w' → K (a.put o.dst v) w') : wpOp P ops Q i K a w := by
  unfold wpOp
  rw [hi]
  show if Region.wanted o (yielded ops a.tmps) = true then _ else _
  rw [if_pos (wanted_bare hg)]
  refine .inl ?_
  unfold Oper.wp
  rw [hr, Oper.upon_enter]
  refine hc.mono fun e w' hh => ?_
  obtain ⟨v, rfl, hR⟩ := hh
  exact h v w' hR
theorem wpOp_wp {i : Nat} {o : Oper} {a : Act} {w : World} {K : Act → World → Prop} (hi : ops[i]? = some o) (hg : o.guard = none) (h : o.wp P a w K Q) : wpOp P ops Q i K a w := by
  unfold wpOp
  rw [hi]
  show if Region.wanted o (yielded ops a.tmps) = true then _ else _
  rw [if_pos (wanted_bare hg)]
  exact .inl h
end
section
variable {P : Program} {ops : Array Oper} {Q : Exit → Act → World → Prop} {md : Region.Mode}
theorem wpAny_oneOp {i : Nat} {fuel : Nat} {listed : Array Bool} {a : Act} {w : World} (hr : Region.ready md ops listed = [i]) (l2 : Array Bool) (hl : listed.setIfInBounds i true = l2)
    (h : wpOp P ops Q i (wpAny P md ops Q fuel l2) a w) : wpAny P md ops Q (fuel + 1) listed a w := by
  subst hl
  refine wpAny_all hr (by simp) ?_
  intro j hj
  obtain rfl : j = i := by simpa using hj
  exact h
/-- The one operation that may come up, and it yields a value. -/
theorem wpAny_valueTo {i : Nat} {oi : Oper} {fuel : Nat} {listed : Array Bool} {a : Act} {w : World} (hi : ops[i]? = some oi) (hg : oi.guard = none) (d : Tmp) (hd : oi.dst = some d)
    (hr : Region.ready md ops listed = [i]) (l2 : Array Bool) (hl : listed.setIfInBounds i true = l2) (v : Value) (w' : World) (hrun : (execOp a.eval oi).run P w = .ok (.value v) w')
    (h : wpAny P md ops Q fuel l2 (a.put (some d) v) w') : wpAny P md ops Q (fuel + 1) listed a w := by
  refine wpAny_oneOp hr l2 hl (wpOp_wp hi hg ?_)
  unfold Oper.wp
  rw [hrun, Oper.upon_value, hd]
  exact h
/-- The one operation that may come up, and it calls a function. -/
theorem wpAny_callTo {i : Nat} {oi : Oper} {fuel : Nat} {listed : Array Bool} {a : Act} {w : World} (hi : ops[i]? = some oi) (hg : oi.guard = none) (d : Tmp) (hd : oi.dst = some d)
    (hr : Region.ready md ops listed = [i]) (l2 : Array Bool) (hl : listed.setIfInBounds i true = l2) (f : FuncId) (args : Array Value) (hrun : (execOp a.eval oi).run P w = .ok (.enter f args) w)
    (R : Value → World → Prop) (hc : Calls P f args w fun e w' => ∃ v, e = .returned v ∧ R v w')
    (h : ∀ v w', R v w' → wpAny P md ops Q fuel l2 (a.put (some d) v) w') : wpAny P md ops Q (fuel + 1) listed a w := by
  refine wpAny_oneOp hr l2 hl (wpOp_call hi hg f args hrun R hc ?_)
  rw [hd]
  exact h
/-- The one operation that may come up, and it stores a row. -/
theorem wpAny_storeTo {i : Nat} {oi : Oper} {fuel : Nat} {listed : Array Bool} {a : Act} {w : World} (hi : ops[i]? = some oi) (hg : oi.guard = none) (hd : oi.dst = none)
    (hr : Region.ready md ops listed = [i]) (l2 : Array Bool) (hl : listed.setIfInBounds i true = l2) (ty : TypeId) (x y : Operand) (ho : oi.op = .store ty x y)
    (g : Nat) (cells : Array Value) (hx : a.eval x = .pointer (some ⟨g, 0, none⟩)) (hy : a.eval y = .agg cells)
    (t : TypeId) (old : Array Value) (hgo : w.heap[g]? = some (.cells old t (0, 0))) (hin : (P.info? ty).map (·.size) = some cells.size)
    (hold : old.size = cells.size) (h1 : cells.all (·.oneCell') = true)
    (h : wpAny P md ops Q fuel l2 a (w.setRow g cells)) : wpAny P md ops Q (fuel + 1) listed a w := by
  refine wpAny_oneOp hr l2 hl (wpOp_wp hi hg (wp_store_row ty x y ho g cells hx hy t old hgo hin hold h1 ?_))
  rw [hd]
  exact h
end
section
variable {P : Program} {ops : Array Oper} {Q : Exit → Act → World → Prop}
theorem wpOp_callTo {i : Nat} {o : Oper} {a : Act} {w : World} {K : Act → World → Prop} (hi : ops[i]? = some o) (hg : o.guard = none) (d : Tmp) (hd : o.dst = some d) (f : FuncId) (args : Array Value)
    (hr : (execOp a.eval o).run P w = .ok (.enter f args) w) (R : Value → World → Prop) (hc : Calls P f args w fun e w' => ∃ v, e = .returned v ∧ R v w') (h : ∀ v w', R v w' → K (a.put (some d) v) w') : wpOp P ops Q i K a w :=
  wpOp_call hi hg f args hr R hc (by rw [hd]; exact h)
theorem wpOp_valueTo {i : Nat} {o : Oper} {a : Act} {w w' : World} {K : Act → World → Prop} {v : Value} (hi : ops[i]? = some o) (hg : o.guard = none) (d : Tmp) (hd : o.dst = some d)
    (hr : (execOp a.eval o).run P w = .ok (.value v) w') (h : K (a.put (some d) v) w') : wpOp P ops Q i K a w := by
  refine wpOp_wp hi hg ?_
  unfold Oper.wp
  rw [hr, Oper.upon_value, hd]
  exact h
theorem wpAny_two {i j : Nat} {fuel : Nat} {listed : Array Bool} {a : Act} {w : World} {md : Region.Mode} (hr : Region.ready md ops listed = [i, j]) (l1 l2 : Array Bool) (h1 : listed.setIfInBounds i true = l1) (h2 : listed.setIfInBounds j true = l2)
    (k1 : wpOp P ops Q i (wpAny P md ops Q fuel l1) a w) (k2 : wpOp P ops Q j (wpAny P md ops Q fuel l2) a w) : wpAny P md ops Q (fuel + 1) listed a w := by
  subst h1 h2
  refine wpAny_all hr (by simp) ?_
  intro x hx
  simp only [List.mem_cons, List.not_mem_nil, or_false] at hx
  rcases hx with rfl | rfl
  · exact k1
  · exact k2
end

section
variable {P : Program} {ops : Array Oper} {Q : Exit → Act → World → Prop} {md : Region.Mode} {S : World → Prop}
theorem held_take {i : Nat} {oi : Oper} {v : Value} {fuel : Nat} {listed : Array Bool} {a : Act} {w : World} (hi : ops[i]? = some oi) (d : Tmp) (hd : oi.dst = some d)
    (hs : Region.noSelect ops = true) (hf : Region.free md ops listed i = true) (hr : (Region.ready md ops listed).contains i = true) (hQ : ∀ c a w, Q (.panic c) (a.put (some d) v) w → Q (.panic c) a w)
    (hw : Region.wanted oi (yielded ops a.tmps) = true) (hy : ∀ w, S w → (execOp a.eval oi).run P w = .ok (.value v) w) (hS : S w) (l2 : Array Bool) (hl : listed.setIfInBounds i true = l2)
    (h : wpAnyH P md ops Q S fuel l2 (a.put (some d) v) w) : wpAnyH P md ops Q S (fuel + 1) listed a w := by
  subst hl
  rw [← hd] at h hQ
  exact wpAnyH_take hi hs hf hr hQ (.inl ⟨hw, hy⟩) hS h
theorem held_one {i : Nat} {fuel : Nat} {listed : Array Bool} {a : Act} {w : World} (hr : Region.ready md ops listed = [i]) (l2 : Array Bool) (hl : listed.setIfInBounds i true = l2)
    (h : wpOp P ops Q i (fun a' w' => S w' ∧ wpAnyH P md ops Q S fuel l2 a' w') a w) : wpAnyH P md ops Q S (fuel + 1) listed a w := by
  subst hl
  refine wpAnyH_all hr (by simp) ?_
  intro j hj
  obtain rfl : j = i := by simpa using hj
  exact h
theorem wpOp_valG {i : Nat} {o : Oper} {a : Act} {w w' : World} {K : Act → World → Prop} {v : Value} (hi : ops[i]? = some o) (hw : Region.wanted o (yielded ops a.tmps) = true) (d : Tmp) (hd : o.dst = some d)
    (hr : (execOp a.eval o).run P w = .ok (.value v) w') (h : K (a.put (some d) v) w') : wpOp P ops Q i K a w := by
  unfold wpOp
  rw [hi]
  show if Region.wanted o (yielded ops a.tmps) = true then _ else _
  rw [if_pos hw]
  refine .inl ?_
  unfold Oper.wp
  rw [hr, Oper.upon_value, hd]
  exact h
theorem wpOp_callG {i : Nat} {o : Oper} {a : Act} {w : World} {K : Act → World → Prop} (hi : ops[i]? = some o) (hw : Region.wanted o (yielded ops a.tmps) = true) (d : Tmp) (hd : o.dst = some d) (f : FuncId) (args : Array Value)
    (hr : (execOp a.eval o).run P w = .ok (.enter f args) w) (R : Value → World → Prop) (hc : Calls P f args w fun e w' => ∃ v, e = .returned v ∧ R v w') (h : ∀ v w', R v w' → K (a.put (some d) v) w') : wpOp P ops Q i K a w := by
  unfold wpOp
  rw [hi]
  show if Region.wanted o (yielded ops a.tmps) = true then _ else _
  rw [if_pos hw]
  refine .inl ?_
  unfold Oper.wp
  rw [hr, Oper.upon_enter]
  refine hc.mono fun e w' hh => ?_
  obtain ⟨v, rfl, hR⟩ := hh
  rw [hd]
  exact h v w' hR
end
section
variable {P : Program} {ops : Array Oper} {Q : Exit → Act → World → Prop} {md : Region.Mode} {S : World → Prop}
/-- What holds at each set of operations holds to the end. -/
theorem wpAnyH_inv (I : Array Bool → Act → World → Prop) (hdone : ∀ l a w, I l a w → Region.ready md ops l = [] → Q .normal a w)
    (hstep : ∀ l a w i, I l a w → i ∈ Region.ready md ops l → wpOp P ops Q i (fun a' w' => S w' ∧ I (l.setIfInBounds i true) a' w') a w) :
    ∀ fuel l a w, l.toList.count false ≤ fuel → I l a w → wpAnyH P md ops Q S fuel l a w := by
  intro fuel
  induction fuel with
  | zero =>
    intro l a w hc hI
    have hr : Region.ready md ops l = [] := by
      rw [List.eq_nil_iff_forall_not_mem]
      intro i hi
      have := count_true l i (mem_ready.1 hi).1
      omega
    exact ⟨hr, hdone _ _ _ hI hr⟩
  | succ fuel ih =>
    intro l a w hc hI
    refine ⟨fun h => hdone _ _ _ hI h, fun i hi => wpOp_mono (fun a' w' h' => ⟨h'.1, ih _ a' w' ?_ h'.2⟩) (hstep l a w i hI hi)⟩
    have := count_true l i (mem_ready.1 hi).1
    omega
end

section
variable {P : Program} {ops : Array Oper} {Q : Exit → Act → World → Prop} {md : Region.Mode} {S : World → Prop}
theorem held_two {i j : Nat} {fuel : Nat} {listed : Array Bool} {a : Act} {w : World} (hr : Region.ready md ops listed = [i, j]) (l1 l2 : Array Bool) (h1 : listed.setIfInBounds i true = l1) (h2 : listed.setIfInBounds j true = l2)
    (k1 : wpOp P ops Q i (fun a' w' => S w' ∧ wpAnyH P md ops Q S fuel l1 a' w') a w) (k2 : wpOp P ops Q j (fun a' w' => S w' ∧ wpAnyH P md ops Q S fuel l2 a' w') a w) : wpAnyH P md ops Q S (fuel + 1) listed a w := by
  subst h1 h2
  refine wpAnyH_all hr (by simp) ?_
  intro x hx
  simp only [List.mem_cons, List.not_mem_nil, or_false] at hx
  rcases hx with rfl | rfl
  · exact k1
  · exact k2
end
end Go.Proofs.YtilbbemdinpjcaaGreat.T
