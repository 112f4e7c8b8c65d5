/-
  How the nodes of a term lie, all of them (laid); it throws what is not in order.
-/
import Derived.Test.YtilbbemdinpjcaaGreatJTTl
import Derived.Deep.RegionHeld3
import Derived.Laws.MakeOwn
namespace Go.Proofs.YtilbbemdinpjcaaGreat.T
open Go.RowKit
section
variable {P : Program} {ops : Array Oper} {Q : Exit → Act → World → Prop} {md : Region.Mode}
theorem count_true (l : Array Bool) (i : Nat) (h : l.getD i true = false) : (l.setIfInBounds i true).toList.count false + 1 = l.toList.count false := by
 have hi : i < l.size := by
  apply Decidable.byContradiction
  intro hn
  rw [Array.getD_eq_getD_getElem?, Array.getElem?_eq_none (by omega)] at h
  cases h
 have hv : l.toList[i]'(by simpa using hi) = false := by
  rw [Array.getD_eq_getD_getElem?, Array.getElem?_eq_getElem hi] at h
  simpa using h
 rw [Array.toList_setIfInBounds, List.count_set (by simpa using hi), hv]
 have hm : false ∈ l.toList := by rw [← hv]; exact List.getElem_mem _
 have hp : 0 < l.toList.count false := List.count_pos_iff.2 hm
 generalize l.toList.count false = c at hp ⊢
 have e : (if (true == false) = true then 1 else 0 : Nat) = 0 := rfl
 have e2 : (if (false == false) = true then 1 else 0 : Nat) = 1 := rfl
 rw [e, e2]
 omega
theorem wpAny_inv (I : Array Bool → Act → World → Prop) (hdone : ∀ l a w, I l a w → Region.ready md ops l = [] → Q .normal a w)
    (hstep : ∀ l a w i, I l a w → i ∈ Region.ready md ops l → wpOp P ops Q i (I (l.setIfInBounds i true)) a w) :
    ∀ fuel l a w, l.toList.count false ≤ fuel → I l a w → wpAny P md ops Q fuel l a w := by
  intro fuel
  induction fuel with
  | zero =>
    intro l a w hc hI
    have hr : Region.ready md ops l = [] := by
      rw [List.eq_nil_iff_forall_not_mem]
      intro i hi
      have := count_true l i (mem_ready.1 hi).1
      omega
    exact ⟨hr, hdone _ _ _ hI hr⟩
  | succ fuel ih =>
    intro l a w hc hI
    refine ⟨fun h => hdone _ _ _ hI h, fun i hi => wpOp_mono (fun a' w' h' => ih _ a' w' ?_ h') (hstep l a w i hI hi)⟩
    have := count_true l i (mem_ready.1 hi).1
    omega
end
section
variable {P : Program} {ops : Array Oper} {Q : Exit → Act → World → Prop} {md : Region.Mode}
end
def put4 (a : Act) (s1 s2 p1 p2 : Tmp) (v1 v2 v3 v4 : Value) : Act := (((a.put (some s1) v1).put (some s2) v2).put (some p1) v3).put (some p2) v4
theorem put_twice (a : Act) (s : Tmp) (u v : Value) : (a.put (some s) u).put (some s) v = a.put (some s) v := by simp [Act.put]
theorem put_turn (a : Act) (s t : Tmp) (u v : Value) (h : s ≠ t) : (a.put (some s) u).put (some t) v = (a.put (some t) v).put (some s) u := by
 simp only [Act.put]; rw [Array.setIfInBounds_comm _ _ h]
theorem put4_1 (a : Act) (s1 s2 p1 p2 : Tmp) (v1 v2 v3 v4 v : Value) (h2 : s1 ≠ s2) (h3 : s1 ≠ p1) (h4 : s1 ≠ p2) : (put4 a s1 s2 p1 p2 v1 v2 v3 v4).put (some s1) v = put4 a s1 s2 p1 p2 v v2 v3 v4 := by
 unfold put4
 rw [put_turn _ p2 s1 _ _ (Ne.symm h4), put_turn _ p1 s1 _ _ (Ne.symm h3), put_turn _ s2 s1 _ _ (Ne.symm h2), put_twice]
theorem put4_2 (a : Act) (s1 s2 p1 p2 : Tmp) (v1 v2 v3 v4 v : Value) (h3 : s2 ≠ p1) (h4 : s2 ≠ p2) : (put4 a s1 s2 p1 p2 v1 v2 v3 v4).put (some s2) v = put4 a s1 s2 p1 p2 v1 v v3 v4 := by
 unfold put4
 rw [put_turn _ p2 s2 _ _ (Ne.symm h4), put_turn _ p1 s2 _ _ (Ne.symm h3), put_twice]
theorem put4_3 (a : Act) (s1 s2 p1 p2 : Tmp) (v1 v2 v3 v4 v : Value) (h4 : p1 ≠ p2) : (put4 a s1 s2 p1 p2 v1 v2 v3 v4).put (some p1) v = put4 a s1 s2 p1 p2 v1 v2 v v4 := by
 unfold put4
 rw [put_turn _ p2 p1 _ _ (Ne.symm h4), put_twice]
theorem put4_4 (a : Act) (s1 s2 p1 p2 : Tmp) (v1 v2 v3 v4 v : Value) : (put4 a s1 s2 p1 p2 v1 v2 v3 v4).put (some p2) v = put4 a s1 s2 p1 p2 v1 v2 v3 v := by
 unfold put4
 rw [put_twice]
theorem all_two {p : Bool → Bool} (h : [false, true].all p = true) (b : Bool) : p b = true := by
 simp at h
 cases b
 ·
  exact h.1
 ·
  exact h.2
theorem put_self (a : Act) (s : Tmp) : a.put (some s) (a.tmps.getD s undef) = a := by
  cases a with
  | mk tmps defers =>
    simp only [Act.put]
    congr 1
    apply Array.ext
    · simp
    · intro i h1 h2
      rw [Array.getElem_setIfInBounds (by simpa using h2)]
      split
      · rename_i h; subst h; simp [Array.getD_eq_getD_getElem?, h2]
      · rfl
theorem put4_self (a : Act) (s1 s2 p1 p2 : Tmp) (h12 : s1 ≠ s2) (h13 : s1 ≠ p1) (h14 : s1 ≠ p2) (h23 : s2 ≠ p1) (h24 : s2 ≠ p2) (h34 : p1 ≠ p2) : ∃ v1 v2 v3 v4, a = put4 a s1 s2 p1 p2 v1 v2 v3 v4 := by
 have _ := And.intro h12 (And.intro h13 (And.intro h14 (And.intro h23 (And.intro h24 h34))))
 refine ⟨a.tmps.getD s1 undef, a.tmps.getD s2 undef, a.tmps.getD p1 undef, a.tmps.getD p2 undef, ?_⟩
 unfold put4
 rw [put_self, put_self, put_self, put_self]
theorem eval_put_same (a : Act) (s : Tmp) (v : Value) (h : s < a.tmps.size) : (a.put (some s) v).eval (.tmp s) = v := by
 simp [Act.put, Act.eval, Array.getD_eq_getD_getElem?, h]
theorem eval_put_other (a : Act) (s t : Tmp) (v : Value) (h : s ≠ t) : (a.put (some s) v).eval (.tmp t) = a.eval (.tmp t) :=
 Act.eval_put (fun d hd => by intro e; injection e with e; injection hd with hd; exact h (hd.trans e.symm))
theorem put_size (a : Act) (s : Tmp) (v : Value) : (a.put (some s) v).tmps.size = a.tmps.size := by simp [Act.put]
theorem eval4_3 (a : Act) (s1 s2 p1 p2 : Tmp) (v1 v2 v3 v4 : Value) (h4 : p2 ≠ p1) (h : p1 < a.tmps.size) : (put4 a s1 s2 p1 p2 v1 v2 v3 v4).eval (.tmp p1) = v3 := by
 unfold put4
 rw [eval_put_other _ _ _ _ h4, eval_put_same _ _ _ (by rw [put_size, put_size]; exact h)]
theorem eval4_4 (a : Act) (s1 s2 p1 p2 : Tmp) (v1 v2 v3 v4 : Value) (h : p2 < a.tmps.size) : (put4 a s1 s2 p1 p2 v1 v2 v3 v4).eval (.tmp p2) = v4 := by
 unfold put4
 rw [eval_put_same _ _ _ (by rw [put_size, put_size, put_size]; exact h)]
section
variable {P : Program} {ops : Array Oper} {Q : Exit → Act → World → Prop}
theorem wanted_bare {o : Oper} {a : Act} (hg : o.guard = none) : Region.wanted o (yielded ops a.tmps) = true := by simp [Region.wanted, hg]
theorem wpOp_call {i : Nat} {o : Oper} {a : Act} {w : World} {K : Act → World → Prop} (hi : ops[i]? = some o) (hg : o.guard = none) (f : FuncId) (args : Array Value)
  (hr : (execOp a.eval o).run P w = .ok (.enter f args) w) (R : Value → World → Prop) (hc : Calls P f args w fun e w' => ∃ v, e = .returned v ∧ R v w') (h : ∀ v w', R v w' → K (a.put o.dst v) w') : wpOp P ops Q i K a w := by
 unfold wpOp
 rw [hi]
 show if Region.wanted o (yielded ops a.tmps) = true then _ else _
 rw [if_pos (wanted_bare hg)]
 refine .inl ?_
 unfold Oper.wp
 rw [hr, Oper.upon_enter]
 refine hc.mono fun e w' hh => ?_
 obtain ⟨v, rfl, hR⟩ := hh
 exact h v w' hR
theorem wpOp_wp {i : Nat} {o : Oper} {a : Act} {w : World} {K : Act → World → Prop} (hi : ops[i]? = some o) (hg : o.guard = none) (h : o.wp P a w K Q) : wpOp P ops Q i K a w := by
 unfold wpOp
 rw [hi]
 show if Region.wanted o (yielded ops a.tmps) = true then _ else _
 rw [if_pos (wanted_bare hg)]
 exact .inl h
end
section
variable {P : Program} {ops : Array Oper} {Q : Exit → Act → World → Prop} {md : Region.Mode}
end
section
variable {P : Program} {ops : Array Oper} {Q : Exit → Act → World → Prop}
theorem wpOp_callTo {i : Nat} {o : Oper} {a : Act} {w : World} {K : Act → World → Prop} (hi : ops[i]? = some o) (hg : o.guard = none) (d : Tmp) (hd : o.dst = some d) (f : FuncId) (args : Array Value)
  (hr : (execOp a.eval o).run P w = .ok (.enter f args) w) (R : Value → World → Prop) (hc : Calls P f args w fun e w' => ∃ v, e = .returned v ∧ R v w') (h : ∀ v w', R v w' → K (a.put (some d) v) w') : wpOp P ops Q i K a w :=
 wpOp_call hi hg f args hr R hc (by rw [hd]; exact h)
theorem wpOp_valueTo {i : Nat} {o : Oper} {a : Act} {w w' : World} {K : Act → World → Prop} {v : Value} (hi : ops[i]? = some o) (hg : o.guard = none) (d : Tmp) (hd : o.dst = some d)
  (hr : (execOp a.eval o).run P w = .ok (.value v) w') (h : K (a.put (some d) v) w') : wpOp P ops Q i K a w := by
 refine wpOp_wp hi hg ?_
 unfold Oper.wp
 rw [hr, Oper.upon_value, hd]
 exact h
end
section
variable {P : Program} {ops : Array Oper} {Q : Exit → Act → World → Prop} {md : Region.Mode} {S : World → Prop}
theorem held_take {i : Nat} {oi : Oper} {v : Value} {fuel : Nat} {listed : Array Bool} {a : Act} {w : World} (hi : ops[i]? = some oi) (d : Tmp) (hd : oi.dst = some d)
  (hs : Region.noSelect ops = true) (hf : Region.free md ops listed i = true) (hr : (Region.ready md ops listed).contains i = true) (hQ : ∀ c a w, Q (.panic c) (a.put (some d) v) w → Q (.panic c) a w)
  (hw : Region.wanted oi (yielded ops a.tmps) = true) (hy : ∀ w, S w → (execOp a.eval oi).run P w = .ok (.value v) w) (hS : S w) (l2 : Array Bool) (hl : listed.setIfInBounds i true = l2)
  (h : wpAnyH P md ops Q S fuel l2 (a.put (some d) v) w) : wpAnyH P md ops Q S (fuel + 1) listed a w := by
 subst hl
 rw [← hd] at h hQ
 exact wpAnyH_take hi hs hf hr hQ (.inl ⟨hw, hy⟩) hS h
theorem held_one {i : Nat} {fuel : Nat} {listed : Array Bool} {a : Act} {w : World} (hr : Region.ready md ops listed = [i]) (l2 : Array Bool) (hl : listed.setIfInBounds i true = l2)
  (h : wpOp P ops Q i (fun a' w' => S w' ∧ wpAnyH P md ops Q S fuel l2 a' w') a w) : wpAnyH P md ops Q S (fuel + 1) listed a w := by
 subst hl
 refine wpAnyH_all hr (by simp) ?_
 intro j hj
 obtain rfl : j = i := by simpa using hj
 exact h
theorem wpOp_valG {i : Nat} {o : Oper} {a : Act} {w w' : World} {K : Act → World → Prop} {v : Value} (hi : ops[i]? = some o) (hw : Region.wanted o (yielded ops a.tmps) = true) (d : Tmp) (hd : o.dst = some d)
  (hr : (execOp a.eval o).run P w = .ok (.value v) w') (h : K (a.put (some d) v) w') : wpOp P ops Q i K a w := by
 unfold wpOp
 rw [hi]
 show if Region.wanted o (yielded ops a.tmps) = true then _ else _
 rw [if_pos hw]
 refine .inl ?_
 unfold Oper.wp
 rw [hr, Oper.upon_value, hd]
 exact h
theorem wpOp_callG {i : Nat} {o : Oper} {a : Act} {w : World} {K : Act → World → Prop} (hi : ops[i]? = some o) (hw : Region.wanted o (yielded ops a.tmps) = true) (d : Tmp) (hd : o.dst = some d) (f : FuncId) (args : Array Value)
  (hr : (execOp a.eval o).run P w = .ok (.enter f args) w) (R : Value → World → Prop) (hc : Calls P f args w fun e w' => ∃ v, e = .returned v ∧ R v w') (h : ∀ v w', R v w' → K (a.put (some d) v) w') : wpOp P ops Q i K a w := by
 unfold wpOp
 rw [hi]
 show if Region.wanted o (yielded ops a.tmps) = true then _ else _
 rw [if_pos hw]
 refine .inl ?_
 unfold Oper.wp
 rw [hr, Oper.upon_enter]
 refine hc.mono fun e w' hh => ?_
 obtain ⟨v, rfl, hR⟩ := hh
 rw [hd]
 exact h v w' hR
end
section
variable {P : Program} {ops : Array Oper} {Q : Exit → Act → World → Prop} {md : Region.Mode} {S : World → Prop}
theorem wpAnyH_inv (I : Array Bool → Act → World → Prop) (hdone : ∀ l a w, I l a w → Region.ready md ops l = [] → Q .normal a w)
    (hstep : ∀ l a w i, I l a w → i ∈ Region.ready md ops l → wpOp P ops Q i (fun a' w' => S w' ∧ I (l.setIfInBounds i true) a' w') a w) :
    ∀ fuel l a w, l.toList.count false ≤ fuel → I l a w → wpAnyH P md ops Q S fuel l a w := by
  intro fuel
  induction fuel with
  | zero =>
    intro l a w hc hI
    have hr : Region.ready md ops l = [] := by
      rw [List.eq_nil_iff_forall_not_mem]
      intro i hi
      have := count_true l i (mem_ready.1 hi).1
      omega
    exact ⟨hr, hdone _ _ _ hI hr⟩
  | succ fuel ih =>
    intro l a w hc hI
    refine ⟨fun h => hdone _ _ _ hI h, fun i hi => wpOp_mono (fun a' w' h' => ⟨h'.1, ih _ a' w' ?_ h'.2⟩) (hstep l a w i hI hi)⟩
    have := count_true l i (mem_ready.1 hi).1
    omega
end
section
variable {P : Program} {ops : Array Oper} {Q : Exit → Act → World → Prop} {md : Region.Mode} {S : World → Prop}
theorem held_two {i j : Nat} {fuel : Nat} {listed : Array Bool} {a : Act} {w : World} (hr : Region.ready md ops listed = [i, j]) (l1 l2 : Array Bool) (h1 : listed.setIfInBounds i true = l1) (h2 : listed.setIfInBounds j true = l2)
  (k1 : wpOp P ops Q i (fun a' w' => S w' ∧ wpAnyH P md ops Q S fuel l1 a' w') a w) (k2 : wpOp P ops Q j (fun a' w' => S w' ∧ wpAnyH P md ops Q S fuel l2 a' w') a w) : wpAnyH P md ops Q S (fuel + 1) listed a w := by
 subst h1 h2
 refine wpAnyH_all hr (by simp) ?_
 intro x hx
 simp only [List.mem_cons, List.not_mem_nil, or_false] at hx
 rcases hx with rfl | rfl
 ·
  exact k1
 ·
  exact k2
end
end Go.Proofs.YtilbbemdinpjcaaGreat.T
namespace Go.Proofs.YtilbbemdinpjcaaGreat.T
open Go.RowKit
def layN (ks : Nat → Int) (n : Nat) : Nat → Option ((Nat → Nat) × (Nat → Nat))
  | 0 => some (fun _ => 0, fun _ => 0)
  | j + 1 => match layN ks n j with
    | none => none
    | some (E, D) => if ks (n - 1 - j) < 0 then none else match walk E D n (ks (n - 1 - j)).toNat (n - 1 - j + 1, 0) with
      | none => none
      | some (a, m) => some (upd E (n - 1 - j) a, upd D (n - 1 - j) (m + 1))
def LayInv (n j : Nat) (E D : Nat → Nat) : Prop := (∀ x, E x ≤ n) ∧ (∀ x, D x ≤ n) ∧ ∀ x, n - j ≤ x → x < n → x < E x ∧ D x ≤ n - x
theorem walk_good {E D : Nat → Nat} {n i : Nat} (h : ∀ x, i + 1 ≤ x → x < n → x < E x ∧ E x ≤ n ∧ D x ≤ n - x) (hi : i < n) : ∀ (k a m : Nat), walk E D n k (i + 1, 0) = some (a, m) → i + 1 ≤ a ∧ a ≤ n ∧ m ≤ n - (i + 1)
  | 0, a, m, hw => by
    simp only [walk, Option.some.injEq] at hw
    cases hw
    omega
  | k + 1, a, m, hw => by
    simp only [walk] at hw
    cases hk : walk E D n k (i + 1, 0) with
    | none => rw [hk] at hw; cases hw
    | some y =>
      obtain ⟨a0, m0⟩ := y
      rw [hk] at hw
      have ih := walk_good h hi k a0 m0 hk
      simp only at hw
      split at hw
      · cases hw
      · rename_i hne
        cases hw
        have := h a0 ih.1 (by omega)
        omega
theorem layN_inv (ks : Nat → Int) (n : Nat) : ∀ (j : Nat) (E D : Nat → Nat), j ≤ n → layN ks n j = some (E, D) → LayInv n j E D
  | 0, E, D, _, h => by
    simp only [layN, Option.some.injEq, Prod.mk.injEq] at h
    obtain ⟨rfl, rfl⟩ := h
    exact ⟨fun _ => Nat.zero_le _, fun _ => Nat.zero_le _, fun x h1 h2 => by omega⟩
  | j + 1, E, D, hj, h => by
    simp only [layN] at h
    cases hl : layN ks n j with
    | none => rw [hl] at h; cases h
    | some y =>
      obtain ⟨E0, D0⟩ := y
      rw [hl] at h
      obtain ⟨h1, h2, h3⟩ := layN_inv ks n j E0 D0 (by omega) hl
      simp only at h
      split at h
      · cases h
      · cases hw : walk E0 D0 n (ks (n - 1 - j)).toNat (n - 1 - j + 1, 0) with
        | none => rw [hw] at h; cases h
        | some z =>
          obtain ⟨a, m⟩ := z
          rw [hw] at h
          simp only [Option.some.injEq, Prod.mk.injEq] at h
          obtain ⟨rfl, rfl⟩ := h
          have hg := walk_good (i := n - 1 - j) (fun x hx1 hx2 => ⟨(h3 x (by omega) hx2).1, h1 x, (h3 x (by omega) hx2).2⟩) (by omega) _ a m hw
          refine ⟨fun x => ?_, fun x => ?_, fun x hx1 hx2 => ?_⟩
          · unfold upd; split
            · omega
            · exact h1 x
          · unfold upd; split
            · omega
            · exact h2 x
          · unfold upd
            by_cases e : x = n - 1 - j
            · rw [if_pos e, if_pos e]; omega
            · rw [if_neg e, if_neg e]
              exact h3 x (by omega) hx2
theorem layN_succ {ks : Nat → Int} {n j : Nat} {E D E' D' : Nat → Nat} (h0 : layN ks n j = some (E, D)) (h : layN ks n (j + 1) = some (E', D')) :
    0 ≤ ks (n - 1 - j) ∧ ∃ a m, walk E D n (ks (n - 1 - j)).toNat (n - 1 - j + 1, 0) = some (a, m) ∧ E' = upd E (n - 1 - j) a ∧ D' = upd D (n - 1 - j) (m + 1) := by
  simp only [layN, h0] at h
  split at h
  · cases h
  · rename_i hk
    cases hw : walk E D n (ks (n - 1 - j)).toNat (n - 1 - j + 1, 0) with
    | none => rw [hw] at h; cases h
    | some z =>
      obtain ⟨a, m⟩ := z
      rw [hw] at h
      simp only [Option.some.injEq, Prod.mk.injEq] at h
      exact ⟨by omega, a, m, rfl, h.1.symm, h.2.symm⟩
theorem layN_prev {ks : Nat → Int} {n : Nat} : ∀ (J j : Nat) (x : (Nat → Nat) × (Nat → Nat)), layN ks n J = some x → j ≤ J → ∃ E D, layN ks n j = some (E, D)
  | 0, j, x, h, hj => by
    obtain rfl : j = 0 := by omega
    exact ⟨x.1, x.2, h⟩
  | J + 1, j, x, h, hj => by
    by_cases e : j = J + 1
    · subst e; exact ⟨x.1, x.2, h⟩
    · cases hl : layN ks n J with
      | none => simp only [layN, hl] at h; cases h
      | some y => exact layN_prev J j y hl (by omega)
theorem layN_none {ks : Nat → Int} {n : Nat} : ∀ J, layN ks n J = none → ∃ j E D, j < J ∧ layN ks n j = some (E, D) ∧ layN ks n (j + 1) = none
  | 0, h => by simp [layN] at h
  | J + 1, h => by
    cases hl : layN ks n J with
    | none =>
      obtain ⟨j, E, D, h1, h2⟩ := layN_none J hl
      exact ⟨j, E, D, by omega, h2⟩
    | some y => exact ⟨J, y.1, y.2, by omega, hl, h⟩
theorem layN_stop {ks : Nat → Int} {n j : Nat} {E D : Nat → Nat} (h0 : layN ks n j = some (E, D)) (h : layN ks n (j + 1) = none) :
  ks (n - 1 - j) < 0 ∨ 0 ≤ ks (n - 1 - j) ∧ walk E D n (ks (n - 1 - j)).toNat (n - 1 - j + 1, 0) = none := by
 by_cases hk : ks (n - 1 - j) < 0
 ·
  exact .inl hk
 ·
  refine .inr ⟨by omega, ?_⟩
  simp only [layN, h0] at h
  rw [if_neg hk] at h
  cases hw : walk E D n (ks (n - 1 - j)).toNat (n - 1 - j + 1, 0) with
  | none => rfl
  | some z => rw [hw] at h; cases h
theorem info3 : (Tryz.prog.info? 3).map (fun i => (i.zero, i.size, i.bytes)) = some (some (.int .i64 0), 1, 8) := by kernel_rfl
theorem made_zero (n : Nat) : madeCells (Value.int .i64 0).cells (n * 1) = iv n fun _ => 0 := by
 have hc : (Value.int .i64 0).cells = #[.int .i64 0] := rfl
 rw [hc, Nat.mul_one]
 unfold madeCells iv
 apply Array.ext_getElem?
 intro j
 by_cases hj : j < n
 ·
  simp [hj, Nat.mod_one]
 ·
  rw [Array.getElem?_eq_none (by simp; omega), Array.getElem?_eq_none (by simp; omega)]
theorem mk_ints (n : Nat) (hn : n ≤ 1000000) (w : World) : (Instr.makeSlice 196 (.int .i64 n) (.int .i64 n)).run Tryz.prog w = .ok (.slice (some ⟨w.heap.size, 0, none⟩) n n) (w.alloc (.cells (iv n fun _ => 0) 3)) := by
 obtain ⟨i0, hi0, hz0, hz1, hz2⟩ := info_parts info3
 have := run_makeSlice (P := Tryz.prog) (w := w) 196 3 i0 (.int .i64 0) Tryz.underlying196 hi0 hz0 .i64 .i64 n n (by omega) (by omega) (by rw [hz1]; simp; omega) (by rw [hz2]; omega) (by omega)
 rw [hz1] at this
 simp only [Int.toNat_natCast] at this
 rw [made_zero] at this
 exact this
def layV (a : Option Addr) (n nc gE gD : Nat) : Array Value := #[.slice a n nc, .slice (some ⟨gE, 0, none⟩) n n, .slice (some ⟨gD, 0, none⟩) n n]
def MkI (w0 : World) (n nc : Nat) (na : Option Addr) (a0 : Act) (l : Array Bool) (a : Act) (w : World) : Prop :=
  ∃ m3 m5 b6 a7 s8 : Bool, l = #[true, true, true, m3, true, m5, b6, a7, s8] ∧ ∃ (v1 v2 v3 v4 : Value) (gE gD g4 : Nat), a = put4 a0 12 14 15 4 v1 v2 v3 v4 ∧
    (m3 = true → v1 = .slice (some ⟨gE, 0, none⟩) n n ∧ w0.heap.size ≤ gE ∧ Lies w gE (iv n fun _ => 0) 3) ∧
    (m5 = true → v2 = .slice (some ⟨gD, 0, none⟩) n n ∧ w0.heap.size ≤ gD ∧ Lies w gD (iv n fun _ => 0) 3) ∧
    (m3 = true → m5 = true → gE ≠ gD) ∧ (b6 = true → m3 = true ∧ m5 = true ∧ v3 = .agg (layV na n nc gE gD)) ∧
    (a7 = true → v4 = .pointer (some ⟨g4, 0, none⟩) ∧ w0.heap.size ≤ g4 ∧ Lies w g4 (if s8 then layV na n nc gE gD else #[.slice none 0 0, .slice none 0 0, .slice none 0 0]) 279) ∧
    (s8 = true → b6 = true ∧ a7 = true) ∧ Below w0.heap.size w0 w
def mkRow (r : List Nat) (m3 m5 b6 a7 s8 : Bool) : Bool :=
 r.all (fun i => (i == 3 && !m3) || (i == 5 && !m5) || (i == 6 && !b6 && m3 && m5) || (i == 7 && !a7) || (i == 8 && !s8 && b6 && a7)) && (!r.isEmpty || (m3 && m5 && b6 && a7 && s8))
def mkReadyB (ops : Array Oper) : Bool :=
 [false, true].all fun m3 => [false, true].all fun m5 => [false, true].all fun b6 => [false, true].all fun a7 => [false, true].all fun s8 => mkRow (Region.ready .any ops #[true, true, true, m3, true, m5, b6, a7, s8]) m3 m5 b6 a7 s8
theorem mk_ready {ops : Array Oper} (h : mkReadyB ops = true) (m3 m5 b6 a7 s8 : Bool) :
  (∀ i ∈ Region.ready .any ops #[true, true, true, m3, true, m5, b6, a7, s8], i = 3 ∧ m3 = false ∨ i = 5 ∧ m5 = false ∨ i = 6 ∧ b6 = false ∧ m3 = true ∧ m5 = true ∨ i = 7 ∧ a7 = false ∨ i = 8 ∧ s8 = false ∧ b6 = true ∧ a7 = true) ∧
  (Region.ready .any ops #[true, true, true, m3, true, m5, b6, a7, s8] = [] → m3 = true ∧ m5 = true ∧ b6 = true ∧ a7 = true ∧ s8 = true) := by
 have h2 := all_two (all_two (all_two (all_two (all_two h m3) m5) b6) a7) s8
 generalize Region.ready .any ops #[true, true, true, m3, true, m5, b6, a7, s8] = r at h2 ⊢
 unfold mkRow at h2
 rw [Bool.and_eq_true, List.all_eq_true] at h2
 refine ⟨fun i hi => ?_, fun e => ?_⟩
 ·
  have := h2.1 i hi
  simp only [Bool.or_eq_true, Bool.and_eq_true, beq_iff_eq, Bool.not_eq_true'] at this
  rcases this with (((h | h) | h) | h) | h
  ·
   exact .inl h
  ·
   exact .inr (.inl h)
  ·
   exact .inr (.inr (.inl ⟨h.1.1.1, h.1.1.2, h.1.2, h.2⟩))
  ·
   exact .inr (.inr (.inr (.inl h)))
  ·
   exact .inr (.inr (.inr (.inr ⟨h.1.1.1, h.1.1.2, h.1.2, h.2⟩)))
 ·
  have := h2.2
  subst e
  simp only [List.isEmpty_nil, Bool.not_true, Bool.false_or, Bool.and_eq_true] at this
  exact ⟨this.1.1.1.1, this.1.1.1.2, this.1.1.2, this.1.2, this.2⟩
theorem alloc59 (w : World) : (Instr.alloc 279 true (.tuple #[])).run Tryz.prog w = .ok (.pointer (some ⟨w.heap.size, 0, none⟩)) (w.alloc (.cells #[.slice none 0 0, .slice none 0 0, .slice none 0 0] 279)) := by kernel_rfl
theorem wp_alloc59 {Q : Exit → Act → World → Prop} {o : Oper} {a : Act} {w : World} {K : Act → World → Prop} (ho : o.op = .alloc 279) (h : K (a.put o.dst (.pointer (some ⟨w.heap.size, 0, none⟩))) (w.alloc (.cells #[.slice none 0 0, .slice none 0 0, .slice none 0 0] 279))) : o.wp Tryz.prog a w K Q := by
 unfold Oper.wp execOp
 simp only [ho, Sem.run_bind, alloc59, Result.andThen_ok, Sem.run_pure]
 exact h
theorem Lies.setRow {w : World} {g : Nat} {cs : Array Value} {t : TypeId} (h : Lies w g cs t) (cs' : Array Value) : Lies (w.setRow g cs') g cs' t := setRow_heap w g cs cs' t _ h
theorem Lies.setRowOther {w : World} {g : Nat} {cs : Array Value} {t : TypeId} (h : Lies w g cs t) (k : Nat) (cs' : Array Value) (hne : g ≠ k) : Lies (w.setRow k cs') g cs t := (setRow_other w k g cs' hne).trans h
theorem below_setRow {B : Nat} {a w : World} (h : Below B a w) (g : Nat) (cs : Array Value) (hg : B ≤ g) : Below B a (w.setRow g cs) :=
 h.trans ⟨rfl, rfl, rfl, by simp, fun k hk => setRow_other w g k cs (by omega)⟩
theorem Lies.apart {w : World} {g k : Nat} {cs ds : Array Value} {t u : TypeId} (h : Lies w g cs t) (h' : Lies w k ds u) (hne : t ≠ u) : g ≠ k := fun e => by
 subst e
 unfold Lies at h h'
 rw [h] at h'
 simp at h'
 exact hne h'.2
theorem info59 : (Tryz.prog.info? 279).map (·.size) = some 3 := by kernel_rfl
theorem mk_any {ops : Array Oper} {Q : Exit → Act → World → Prop} (w0 : World) (n nc : Nat) (na : Option Addr) (hn : n ≤ 1000000) (a0 : Act) (z1 : (12 : Nat) < a0.tmps.size) (z2 : (14 : Nat) < a0.tmps.size) (z3 : (15 : Nat) < a0.tmps.size) (z4 : (4 : Nat) < a0.tmps.size)
    (o3 o5 o6 o7 o8 : Oper)
    (i3 : ops[3]? = some o3) (gd3 : o3.guard = none) (d3 : o3.dst = some 12) (r3 : ∀ v1 v2 v3 v4 w, (execOp (put4 a0 12 14 15 4 v1 v2 v3 v4).eval o3).run Tryz.prog w = .ok (.value (.slice (some ⟨w.heap.size, 0, none⟩) n n)) (w.alloc (.cells (iv n fun _ => 0) 3)))
    (i5 : ops[5]? = some o5) (gd5 : o5.guard = none) (d5 : o5.dst = some 14) (r5 : ∀ v1 v2 v3 v4 w, (execOp (put4 a0 12 14 15 4 v1 v2 v3 v4).eval o5).run Tryz.prog w = .ok (.value (.slice (some ⟨w.heap.size, 0, none⟩) n n)) (w.alloc (.cells (iv n fun _ => 0) 3)))
    (i6 : ops[6]? = some o6) (gd6 : o6.guard = none) (d6 : o6.dst = some 15) (r6 : ∀ gE gD v3 v4 w, (execOp (put4 a0 12 14 15 4 (.slice (some ⟨gE, 0, none⟩) n n) (.slice (some ⟨gD, 0, none⟩) n n) v3 v4).eval o6).run Tryz.prog w = .ok (.value (.agg (layV na n nc gE gD))) w)
    (i7 : ops[7]? = some o7) (gd7 : o7.guard = none) (d7 : o7.dst = some 4) (op7 : o7.op = .alloc 279)
    (i8 : ops[8]? = some o8) (gd8 : o8.guard = none) (d8 : o8.dst = none) (op8 : o8.op = .store 279 (.tmp 4) (.tmp 15))
    (hr : mkReadyB ops = true)
    (hQ : ∀ v1 v2 v3 gE gD g4 w', w0.heap.size ≤ gE → w0.heap.size ≤ gD → w0.heap.size ≤ g4 → gE ≠ gD → Lies w' gE (iv n fun _ => 0) 3 → Lies w' gD (iv n fun _ => 0) 3 → Lies w' g4 (layV na n nc gE gD) 279 → Below w0.heap.size w0 w' →
      Q .normal (put4 a0 12 14 15 4 v1 v2 v3 (.pointer (some ⟨g4, 0, none⟩))) w')
    (w : World) (hb : Below w0.heap.size w0 w) : wpAnyH Tryz.prog .any ops Q (Below w0.heap.size w0) 5 #[true, true, true, false, true, false, false, false, false] a0 w := by
  have _ := hn
  refine wpAnyH_inv (MkI w0 n nc na a0) ?_ ?_ 5 _ _ _ (by decide) ?_
  · rintro l a w1 ⟨m3, m5, b6, a7, s8, rfl, v1, v2, v3, v4, gE, gD, g4, rfl, k1, k2, k3, k4, k5, k6, k7⟩ hnil
    obtain ⟨rfl, rfl, rfl, rfl, rfl⟩ := (mk_ready hr m3 m5 b6 a7 s8).2 hnil
    obtain ⟨rfl, b1, y1⟩ := k1 rfl
    obtain ⟨rfl, b2, y2⟩ := k2 rfl
    obtain ⟨rfl, b4, y4⟩ := k5 rfl
    exact hQ _ _ _ gE gD g4 w1 b1 b2 b4 (k3 rfl rfl) y1 y2 y4 k7
  · rintro l a w1 i ⟨m3, m5, b6, a7, s8, rfl, v1, v2, v3, v4, gE, gD, g4, rfl, k1, k2, k3, k4, k5, k6, k7⟩ hi
    have hsz := k7.size
    rcases (mk_ready hr m3 m5 b6 a7 s8).1 i hi with ⟨rfl, e⟩ | ⟨rfl, e⟩ | ⟨rfl, e, e1, e2⟩ | ⟨rfl, e⟩ | ⟨rfl, e, e1, e2⟩
    · have hb6 : b6 = false := by
        cases b6
        · rfl
        · have := (k4 rfl).1; rw [e] at this; cases this
      have hs8 : s8 = false := by
        cases s8
        · rfl
        · have := (k6 rfl).1; rw [hb6] at this; cases this
      subst e hb6 hs8
      have hb2 := k7.alloc hsz (.cells (iv n fun _ => 0) 3)
      refine wpOp_valueTo i3 gd3 12 d3 (r3 _ _ _ _ _) ⟨hb2, ?_⟩
      rw [put4_1 _ _ _ _ _ _ _ _ _ _ (by decide) (by decide) (by decide)]
      refine ⟨true, m5, false, a7, false, rfl, _, v2, v3, v4, w1.heap.size, gD, g4, rfl, fun _ => ⟨rfl, hsz, Lies.new _ _ _⟩, fun h => ⟨(k2 h).1, (k2 h).2.1, (k2 h).2.2.alloc _⟩, fun _ h => by have := (k2 h).2.2.lt; omega, fun h => (by cases h), fun h => ⟨(k5 h).1, (k5 h).2.1, (k5 h).2.2.alloc _⟩, fun h => (by cases h), hb2⟩
    · have hb6 : b6 = false := by
        cases b6
        · rfl
        · have := (k4 rfl).2.1; rw [e] at this; cases this
      have hs8 : s8 = false := by
        cases s8
        · rfl
        · have := (k6 rfl).1; rw [hb6] at this; cases this
      subst e hb6 hs8
      have hb2 := k7.alloc hsz (.cells (iv n fun _ => 0) 3)
      refine wpOp_valueTo i5 gd5 14 d5 (r5 _ _ _ _ _) ⟨hb2, ?_⟩
      rw [put4_2 _ _ _ _ _ _ _ _ _ _ (by decide) (by decide)]
      refine ⟨m3, true, false, a7, false, rfl, v1, _, v3, v4, gE, w1.heap.size, g4, rfl, fun h => ⟨(k1 h).1, (k1 h).2.1, (k1 h).2.2.alloc _⟩, fun _ => ⟨rfl, hsz, Lies.new _ _ _⟩, fun h _ => by have := (k1 h).2.2.lt; omega, fun h => (by cases h), fun h => ⟨(k5 h).1, (k5 h).2.1, (k5 h).2.2.alloc _⟩, fun h => (by cases h), hb2⟩
    · obtain ⟨rfl, b1, y1⟩ := k1 e1
      obtain ⟨rfl, b2, y2⟩ := k2 e2
      have hs8 : s8 = false := by
        cases s8
        · rfl
        · have := (k6 rfl).1; rw [e] at this; cases this
      subst e e1 e2 hs8
      refine wpOp_valueTo i6 gd6 15 d6 (r6 _ _ _ _ _) ⟨k7, ?_⟩
      rw [put4_3 _ _ _ _ _ _ _ _ _ _ (by decide)]
      exact ⟨true, true, true, a7, false, rfl, _, _, _, v4, gE, gD, g4, rfl, fun _ => ⟨rfl, b1, y1⟩, fun _ => ⟨rfl, b2, y2⟩, k3, fun _ => ⟨rfl, rfl, rfl⟩, k5, fun h => (by cases h), k7⟩
    · have hs8 : s8 = false := by
        cases s8
        · rfl
        · have := (k6 rfl).2; rw [e] at this; cases this
      subst e hs8
      have hb2 := k7.alloc hsz (.cells #[.slice none 0 0, .slice none 0 0, .slice none 0 0] 279)
      refine wpOp_wp i7 gd7 (wp_alloc59 op7 ⟨hb2, ?_⟩)
      rw [d7, put4_4]
      exact ⟨m3, m5, b6, true, false, rfl, v1, v2, v3, _, gE, gD, w1.heap.size, rfl, fun h => ⟨(k1 h).1, (k1 h).2.1, (k1 h).2.2.alloc _⟩, fun h => ⟨(k2 h).1, (k2 h).2.1, (k2 h).2.2.alloc _⟩, k3, k4, fun _ => ⟨rfl, hsz, Lies.new _ _ _⟩, fun h => (by cases h), hb2⟩
    · obtain ⟨rfl, b4, y4⟩ := k5 e2
      obtain ⟨hm3, hm5, rfl⟩ := k4 e1
      obtain ⟨rfl, b1, y1⟩ := k1 hm3
      obtain ⟨rfl, b2, y2⟩ := k2 hm5
      subst e e1 e2 hm3 hm5
      refine wpOp_wp i8 gd8 (wp_store_row 279 (.tmp 4) (.tmp 15) op8 g4 (layV na n nc gE gD) (eval4_4 _ _ _ _ _ _ _ _ _ z4) (eval4_3 _ _ _ _ _ _ _ _ _ (by decide) z3) 279 _ y4 info59 rfl (by simp [layV, Value.oneCell']) ?_)
      rw [d8]
      have hb2 := below_setRow k7 g4 (layV na n nc gE gD) b4
      exact ⟨hb2, true, true, true, true, true, rfl, _, _, _, _, gE, gD, g4, rfl, fun _ => ⟨rfl, b1, y1.setRowOther _ _ (y1.apart y4 (by decide))⟩, fun _ => ⟨rfl, b2, y2.setRowOther _ _ (y2.apart y4 (by decide))⟩, k3, fun _ => ⟨rfl, rfl, rfl⟩, fun _ => ⟨rfl, b4, y4.setRow _⟩, fun _ => ⟨rfl, rfl⟩, hb2⟩
  · obtain ⟨v1, v2, v3, v4, e⟩ := put4_self a0 12 14 15 4 (by decide) (by decide) (by decide) (by decide) (by decide) (by decide)
    have _ := And.intro z1 z2
    exact ⟨false, false, false, false, false, rfl, v1, v2, v3, v4, 0, 0, 0, e, fun h => (by cases h), fun h => (by cases h), fun h => (by cases h), fun h => (by cases h), fun h => (by cases h), fun h => (by cases h), hb⟩
end Go.Proofs.YtilbbemdinpjcaaGreat.T
