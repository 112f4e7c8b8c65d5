/-
  Two terms that are joined in one statement, in whatever order: two rows made, two calls, two blocks, two stores.
-/
import Derived.Test.YtieoiklgoeclaaaGreatTaw
namespace Go.Proofs.YtieoiklgoeclaaaGreat
open Go.RowKit

/-- A frame with some slots said. -/
def putF (a : Act) : List Tmp → (Tmp → Value) → Act
  | [], _ => a
  | s :: l, f => (putF a l f).put (some s) (f s)
theorem putF_size (a : Act) (f : Tmp → Value) : ∀ l : List Tmp, (putF a l f).tmps.size = a.tmps.size
  | [] => rfl
  | s :: l => by rw [putF, put_size, putF_size a f l]
theorem putF_eval (a : Act) (f : Tmp → Value) (s : Tmp) (h : s < a.tmps.size) : ∀ l : List Tmp, s ∈ l → (putF a l f).eval (.tmp s) = f s
  | [], hs => by cases hs
  | t :: l, hs => by
    by_cases e : t = s
    · subst e
      exact eval_put_same _ _ _ (by rw [putF_size]; exact h)
    · rw [putF, eval_put_other _ _ _ _ e]
      exact putF_eval a f s h l (by rcases List.mem_cons.1 hs with h1 | h1; exact absurd h1.symm e; exact h1)
theorem putF_none (a : Act) (f : Tmp → Value) (s : Tmp) (v : Value) : ∀ l : List Tmp, s ∉ l → putF a l (fun t => if t = s then v else f t) = putF a l f
  | [], _ => rfl
  | t :: l, h => by
    have h1 : ¬ t = s := fun e => h (by rw [e]; simp)
    rw [putF, putF, if_neg h1, putF_none a f s v l (fun h2 => h (List.mem_cons_of_mem _ h2))]
theorem putF_put (a : Act) (f : Tmp → Value) (s : Tmp) (v : Value) : ∀ l : List Tmp, l.Nodup → s ∈ l → (putF a l f).put (some s) v = putF a l (fun t => if t = s then v else f t)
  | [], _, h => by cases h
  | t :: l, hn, h => by
    have hn2 := List.nodup_cons.1 hn
    by_cases e : t = s
    · subst e
      rw [putF, put_twice, putF, if_pos rfl, putF_none a f t v l hn2.1]
    · rw [putF, put_turn _ _ _ _ _ e, putF_put a f s v l hn2.2 (by rcases List.mem_cons.1 h with h1 | h1; exact absurd h1.symm e; exact h1), putF, if_neg e]
theorem put_none (a : Act) (v : Value) : a.put none v = a := rfl
theorem putF_self (a : Act) : ∀ l : List Tmp, putF a l (fun t => a.tmps.getD t undef) = a
  | [] => rfl
  | s :: l => by rw [putF, putF_self a l, put_self]
theorem alloc24 (w : World) : (Instr.alloc 27 true (.tuple #[])).run Tryz.prog w = .ok (.pointer (some ⟨w.heap.size, 0, none⟩)) (w.alloc (.cells #[.slice none 0 0] 27)) := by kernel_rfl
theorem wp_alloc24 {Q : Exit → Act → World → Prop} {o : Oper} {a : Act} {w : World} {K : Act → World → Prop} (ho : o.op = .alloc 27) (h : K (a.put o.dst (.pointer (some ⟨w.heap.size, 0, none⟩))) (w.alloc (.cells #[.slice none 0 0] 27))) : o.wp Tryz.prog a w K Q := by
  unfold Oper.wp
  simp [execOp, ho, alloc24, Result.andThen]
  exact h
theorem OwnT.setRow24 {w : World} {B : Nat} {v : Value} {xs : List Nd} (h : OwnT w B v xs) {k : Nat} {cs : Array Value} (hk : Lies w k cs 27) (cs' : Array Value) : OwnT (w.setRow k cs') B v xs := by
  refine ⟨h.1, ?_⟩
  rcases h.2 with hn | ⟨g, cap, cur, h1, h2, h3, h4⟩
  · exact .inl hn
  · exact .inr ⟨g, cap, cur, h1, h2, (setRow_other w k g cs' (Lies.apart (t := 36) (u := 27) h3 hk (by decide))).trans h3, h4⟩
theorem OwnT.alloc {w : World} {B : Nat} {v : Value} {xs : List Nd} (h : OwnT w B v xs) (o : Obj) : OwnT (w.alloc o) B v xs := h.kept ((Below.refl _ _).alloc (Nat.le_refl _) _)
structure JIdx where
  b1 : Nat
  c1 : Nat
  b2 : Nat
  c2 : Nat
  a1 : Nat
  a2 : Nat
  d1 : Nat
  d2 : Nat
def jRow (x : JIdx) (r : List Nat) (b1 c1 b2 c2 a1 a2 d1 d2 : Bool) : Bool :=
  r.all (fun i => (i == x.b1 && !b1) || (i == x.c1 && !c1 && b1) || (i == x.b2 && !b2) || (i == x.c2 && !c2 && b2 && c1) || (i == x.a1 && !a1) || (i == x.a2 && !a2) || (i == x.d1 && !d1 && c1 && c2 && a1 && a2) || (i == x.d2 && !d2 && d1 && c1 && c2 && a1 && a2)) &&
    (!r.isEmpty || (b1 && c1 && b2 && c2 && a1 && a2 && d1 && d2))
abbrev JL := Bool → Bool → Bool → Bool → Bool → Bool → Bool → Bool → Array Bool
def jReadyB (x : JIdx) (L : JL) (ops : Array Oper) : Bool :=
  [false, true].all fun b1 => [false, true].all fun c1 => [false, true].all fun b2 => [false, true].all fun c2 => [false, true].all fun a1 => [false, true].all fun a2 => [false, true].all fun d1 => [false, true].all fun d2 => jRow x (Region.ready .any ops (L b1 c1 b2 c2 a1 a2 d1 d2)) b1 c1 b2 c2 a1 a2 d1 d2
theorem j_ready {x : JIdx} {L : JL} {ops : Array Oper} (h : jReadyB x L ops = true) (b1 c1 b2 c2 a1 a2 d1 d2 : Bool) :
    (∀ i ∈ Region.ready .any ops (L b1 c1 b2 c2 a1 a2 d1 d2), i = x.b1 ∧ b1 = false ∨ i = x.c1 ∧ c1 = false ∧ b1 = true ∨ i = x.b2 ∧ b2 = false ∨ i = x.c2 ∧ c2 = false ∧ b2 = true ∧ c1 = true ∨ i = x.a1 ∧ a1 = false ∨ i = x.a2 ∧ a2 = false ∨
      i = x.d1 ∧ d1 = false ∧ c1 = true ∧ c2 = true ∧ a1 = true ∧ a2 = true ∨ i = x.d2 ∧ d2 = false ∧ d1 = true ∧ c1 = true ∧ c2 = true ∧ a1 = true ∧ a2 = true) ∧
    (Region.ready .any ops (L b1 c1 b2 c2 a1 a2 d1 d2) = [] → b1 = true ∧ c1 = true ∧ b2 = true ∧ c2 = true ∧ a1 = true ∧ a2 = true ∧ d1 = true ∧ d2 = true) := by
  have h2 := all_two (all_two (all_two (all_two (all_two (all_two (all_two (all_two h b1) c1) b2) c2) a1) a2) d1) d2
  generalize Region.ready .any ops (L b1 c1 b2 c2 a1 a2 d1 d2) = r at h2 ⊢
  unfold jRow at h2
  rw [Bool.and_eq_true, List.all_eq_true] at h2
  refine ⟨fun i hi => ?_, fun e => ?_⟩
  · have := h2.1 i hi
    simp only [Bool.or_eq_true, Bool.and_eq_true, beq_iff_eq, Bool.not_eq_true'] at this
    rcases this with ((((((h | h) | h) | h) | h) | h) | h) | h
    · exact .inl h
    · exact .inr (.inl ⟨h.1.1, h.1.2, h.2⟩)
    · exact .inr (.inr (.inl h))
    · exact .inr (.inr (.inr (.inl ⟨h.1.1.1, h.1.1.2, h.1.2, h.2⟩)))
    · exact .inr (.inr (.inr (.inr (.inl h))))
    · exact .inr (.inr (.inr (.inr (.inr (.inl h)))))
    · exact .inr (.inr (.inr (.inr (.inr (.inr (.inl ⟨h.1.1.1.1.1, h.1.1.1.1.2, h.1.1.1.2, h.1.1.2, h.1.2, h.2⟩))))))
    · exact .inr (.inr (.inr (.inr (.inr (.inr (.inr ⟨h.1.1.1.1.1.1, h.1.1.1.1.1.2, h.1.1.1.1.2, h.1.1.1.2, h.1.1.2, h.1.2, h.2⟩))))))
  · have := h2.2
    subst e
    simp only [List.isEmpty_nil, Bool.not_true, Bool.false_or, Bool.and_eq_true] at this
    exact ⟨this.1.1.1.1.1.1.1, this.1.1.1.1.1.1.2, this.1.1.1.1.1.2, this.1.1.1.1.2, this.1.1.1.2, this.1.1.2, this.1.2, this.2⟩
/-- What has come up of: two rows made, two calls, two blocks, two stores. -/
def JI (w0 : World) (R1 R2 : Array Value) (m1 m2 : Nat) (p q : List Nd) (L : JL) (a0 : Act) (s1 r1 s2 r2 p1 p2 : Tmp) (l : Array Bool) (a : Act) (w : World) : Prop :=
  ∃ b1 c1 b2 c2 a1 a2 d1 d2 : Bool, l = L b1 c1 b2 c2 a1 a2 d1 d2 ∧ ∃ (f : Tmp → Value) (g1 g2 : Nat) (v1 v2 : Value), a = putF a0 [s1, r1, s2, r2, p1, p2] f ∧
    (b1 = true → c1 = false → ∃ g, f s1 = .slice (some ⟨g, 0, none⟩) m1 m1 ∧ Lies w g R1 27) ∧
    (b2 = true → c2 = false → ∃ g, f s2 = .slice (some ⟨g, 0, none⟩) m2 m2 ∧ Lies w g R2 27) ∧
    (c1 = true → b1 = true ∧ f r1 = .agg #[v1] ∧ v1.oneCell' = true ∧ OwnT w 0 v1 p) ∧
    (c2 = true → b2 = true ∧ c1 = true ∧ f r2 = .agg #[v2] ∧ v2.oneCell' = true ∧ OwnT w 0 v2 q) ∧
    (a1 = true → f p1 = .pointer (some ⟨g1, 0, none⟩) ∧ w0.heap.size ≤ g1 ∧ Lies w g1 (if d1 then #[v1] else #[.slice none 0 0]) 27) ∧
    (a2 = true → f p2 = .pointer (some ⟨g2, 0, none⟩) ∧ w0.heap.size ≤ g2 ∧ Lies w g2 (if d2 then #[v2] else #[.slice none 0 0]) 27) ∧
    (a1 = true → a2 = true → g1 ≠ g2) ∧ (d1 = true → c1 = true ∧ c2 = true ∧ a1 = true ∧ a2 = true) ∧ (d2 = true → d1 = true) ∧ Below w0.heap.size w0 w
set_option maxHeartbeats 8000000 in
theorem jpair_any {ops : Array Oper} {Q : Exit → Act → World → Prop} (w0 : World) (R1 R2 : Array Value) (m1 m2 : Nat) (p q : List Nd) (x : JIdx) (L : JL) (a0 : Act) (s1 r1 s2 r2 p1 p2 : Tmp)
    (hnd : [s1, r1, s2, r2, p1, p2].Nodup) (hsz : ∀ s ∈ [s1, r1, s2, r2, p1, p2], s < a0.tmps.size) (nv : Value) (ob1 oc1 ob2 oc2 oa1 oa2 od1 od2 : Oper)
    (ib1 : ops[x.b1]? = some ob1) (gb1 : ob1.guard = none) (db1 : ob1.dst = some s1) (rb1 : ∀ f w, (execOp (putF a0 [s1, r1, s2, r2, p1, p2] f).eval ob1).run Tryz.prog w = .ok (.value (.slice (some ⟨w.heap.size, 0, none⟩) m1 m1)) (w.alloc (.cells R1 27)))
    (ib2 : ops[x.b2]? = some ob2) (gb2 : ob2.guard = none) (db2 : ob2.dst = some s2) (rb2 : ∀ f w, (execOp (putF a0 [s1, r1, s2, r2, p1, p2] f).eval ob2).run Tryz.prog w = .ok (.value (.slice (some ⟨w.heap.size, 0, none⟩) m2 m2)) (w.alloc (.cells R2 27)))
    (ic1 : ops[x.c1]? = some oc1) (gc1 : oc1.guard = none) (dc1 : oc1.dst = some r1) (rc1 : ∀ f u w, f s1 = u → (execOp (putF a0 [s1, r1, s2, r2, p1, p2] f).eval oc1).run Tryz.prog w = .ok (.enter 34 #[nv, u]) w)
    (ic2 : ops[x.c2]? = some oc2) (gc2 : oc2.guard = none) (dc2 : oc2.dst = some r2) (rc2 : ∀ f u w, f s2 = u → (execOp (putF a0 [s1, r1, s2, r2, p1, p2] f).eval oc2).run Tryz.prog w = .ok (.enter 34 #[nv, u]) w)
    (ia1 : ops[x.a1]? = some oa1) (ga1 : oa1.guard = none) (da1 : oa1.dst = some p1) (op1 : oa1.op = .alloc 27)
    (ia2 : ops[x.a2]? = some oa2) (ga2 : oa2.guard = none) (da2 : oa2.dst = some p2) (op2 : oa2.op = .alloc 27)
    (id1 : ops[x.d1]? = some od1) (gd1 : od1.guard = none) (dd1 : od1.dst = none) (od1' : od1.op = .store 27 (.tmp p1) (.tmp r1))
    (id2 : ops[x.d2]? = some od2) (gd2 : od2.guard = none) (dd2 : od2.dst = none) (od2' : od2.op = .store 27 (.tmp p2) (.tmp r2))
    (hr : jReadyB x L ops = true)
    (l1 : ∀ c1 b2 c2 a1 a2 d1 d2, (L false c1 b2 c2 a1 a2 d1 d2).setIfInBounds x.b1 true = L true c1 b2 c2 a1 a2 d1 d2)
    (l2 : ∀ b1 b2 c2 a1 a2 d1 d2, (L b1 false b2 c2 a1 a2 d1 d2).setIfInBounds x.c1 true = L b1 true b2 c2 a1 a2 d1 d2)
    (l3 : ∀ b1 c1 c2 a1 a2 d1 d2, (L b1 c1 false c2 a1 a2 d1 d2).setIfInBounds x.b2 true = L b1 c1 true c2 a1 a2 d1 d2)
    (l4 : ∀ b1 c1 b2 a1 a2 d1 d2, (L b1 c1 b2 false a1 a2 d1 d2).setIfInBounds x.c2 true = L b1 c1 b2 true a1 a2 d1 d2)
    (l5 : ∀ b1 c1 b2 c2 a2 d1 d2, (L b1 c1 b2 c2 false a2 d1 d2).setIfInBounds x.a1 true = L b1 c1 b2 c2 true a2 d1 d2)
    (l6 : ∀ b1 c1 b2 c2 a1 d1 d2, (L b1 c1 b2 c2 a1 false d1 d2).setIfInBounds x.a2 true = L b1 c1 b2 c2 a1 true d1 d2)
    (l7 : ∀ b1 c1 b2 c2 a1 a2 d2, (L b1 c1 b2 c2 a1 a2 false d2).setIfInBounds x.d1 true = L b1 c1 b2 c2 a1 a2 true d2)
    (l8 : ∀ b1 c1 b2 c2 a1 a2 d1, (L b1 c1 b2 c2 a1 a2 d1 false).setIfInBounds x.d2 true = L b1 c1 b2 c2 a1 a2 d1 true)
    (hc1 : ∀ W g, Below w0.heap.size w0 W → Lies W g R1 27 → Calls Tryz.prog 34 #[nv, .slice (some ⟨g, 0, none⟩) m1 m1] W fun e w' => ∃ v, e = .returned (.agg #[v]) ∧ OwnT w' 0 v p ∧ Below W.heap.size W w')
    (hc2 : ∀ W g, Below w0.heap.size w0 W → Lies W g R2 27 → Calls Tryz.prog 34 #[nv, .slice (some ⟨g, 0, none⟩) m2 m2] W fun e w' => ∃ v, e = .returned (.agg #[v]) ∧ OwnT w' 0 v q ∧ Below W.heap.size W w')
    (hQ : ∀ f g1 g2 v1 v2 w', w0.heap.size ≤ g1 → w0.heap.size ≤ g2 → Lies w' g1 #[v1] 27 → Lies w' g2 #[v2] 27 → OwnT w' 0 v1 p → OwnT w' 0 v2 q → Below w0.heap.size w0 w' → f p1 = .pointer (some ⟨g1, 0, none⟩) → f p2 = .pointer (some ⟨g2, 0, none⟩) →
      Q .normal (putF a0 [s1, r1, s2, r2, p1, p2] f) w')
    (w : World) (hb : Below w0.heap.size w0 w) (fuel : Nat) (hfu : (L false false false false false false false false).toList.count false ≤ fuel) : wpAnyH Tryz.prog .any ops Q (Below w0.heap.size w0) fuel (L false false false false false false false false) a0 w := by
  have n12 : s1 ≠ r1 := fun e => by subst e; simp at hnd
  have n13 : s1 ≠ s2 := fun e => by subst e; simp at hnd
  have n14 : s1 ≠ r2 := fun e => by subst e; simp at hnd
  have n15 : s1 ≠ p1 := fun e => by subst e; simp at hnd
  have n16 : s1 ≠ p2 := fun e => by subst e; simp at hnd
  have n23 : r1 ≠ s2 := fun e => by subst e; simp at hnd
  have n24 : r1 ≠ r2 := fun e => by subst e; simp at hnd
  have n25 : r1 ≠ p1 := fun e => by subst e; simp at hnd
  have n26 : r1 ≠ p2 := fun e => by subst e; simp at hnd
  have n34 : s2 ≠ r2 := fun e => by subst e; simp at hnd
  have n35 : s2 ≠ p1 := fun e => by subst e; simp at hnd
  have n36 : s2 ≠ p2 := fun e => by subst e; simp at hnd
  have n45 : r2 ≠ p1 := fun e => by subst e; simp at hnd
  have n46 : r2 ≠ p2 := fun e => by subst e; simp at hnd
  have n56 : p1 ≠ p2 := fun e => by subst e; simp at hnd
  refine wpAnyH_inv (JI w0 R1 R2 m1 m2 p q L a0 s1 r1 s2 r2 p1 p2) ?_ ?_ fuel _ _ _ hfu ?_
  · rintro l a w1 ⟨b1, c1, b2, c2, a1, a2, d1, d2, rfl, f, g1, g2, v1, v2, rfl, -, -, k3, k4, k5, k6, -, -, -, k9⟩ hnil
    obtain ⟨rfl, rfl, rfl, rfl, rfl, rfl, rfl, rfl⟩ := (j_ready hr b1 c1 b2 c2 a1 a2 d1 d2).2 hnil
    exact hQ f g1 g2 v1 v2 w1 (k5 rfl).2.1 (k6 rfl).2.1 (k5 rfl).2.2 (k6 rfl).2.2 (k3 rfl).2.2.2 (k4 rfl).2.2.2.2 k9 (k5 rfl).1 (k6 rfl).1
  · rintro l a w1 i ⟨b1, c1, b2, c2, a1, a2, d1, d2, rfl, f, g1, g2, v1, v2, rfl, k1, k2, k3, k4, k5, k6, k7, kd1, kd2, k9⟩ hi
    have hs9 := k9.size
    rcases (j_ready hr b1 c1 b2 c2 a1 a2 d1 d2).1 i hi with ⟨rfl, e⟩ | ⟨rfl, e, e1⟩ | ⟨rfl, e⟩ | ⟨rfl, e, e1, e2⟩ | ⟨rfl, e⟩ | ⟨rfl, e⟩ | ⟨rfl, e, e1, e2, e3, e4⟩ | ⟨rfl, e, e1, e2, e3, e4, e5⟩
    · subst e
      have hc : c1 = false := by
        cases c1
        · rfl
        · have := (k3 rfl).1; cases this
      subst hc
      have hb2 := k9.alloc hs9 (.cells R1 27)
      refine wpOp_valueTo ib1 gb1 s1 db1 (rb1 _ _) ⟨hb2, ?_⟩
      rw [putF_put _ _ _ _ _ hnd (by simp), l1]
      refine ⟨true, false, b2, c2, a1, a2, d1, d2, rfl, _, g1, g2, v1, v2, rfl, fun _ _ => ⟨w1.heap.size, by rw [if_pos rfl], Lies.new _ _ _⟩, fun h1 h2 => ?_, (fun h => by cases h), fun h => ?_, fun h => ?_, fun h => ?_, k7, kd1, kd2, hb2⟩
      · obtain ⟨g, h3, h4⟩ := k2 h1 h2
        exact ⟨g, by rw [if_neg (Ne.symm n13)]; exact h3, h4.alloc _⟩
      · have := (k4 h).2.1; cases this
      · rw [if_neg (Ne.symm n15)]; exact ⟨(k5 h).1, (k5 h).2.1, (k5 h).2.2.alloc _⟩
      · rw [if_neg (Ne.symm n16)]; exact ⟨(k6 h).1, (k6 h).2.1, (k6 h).2.2.alloc _⟩
    · subst e e1
      obtain ⟨g, hg1, hg2⟩ := k1 rfl rfl
      have hc2f : c2 = false := by
        cases c2
        · rfl
        · have := (k4 rfl).2.1; cases this
      subst hc2f
      have hd1f : d1 = false := by
        cases d1
        · rfl
        · have := (kd1 rfl).1; cases this
      subst hd1f
      refine wpOp_callTo ic1 gc1 r1 dc1 34 _ (rc1 f _ w1 hg1) (fun v w' => ∃ u, v = .agg #[u] ∧ u.oneCell' = true ∧ OwnT w' 0 u p ∧ Below w1.heap.size w1 w') ((hc1 w1 g k9 hg2).mono fun e w' ⟨u, h1, h2, h3⟩ => ⟨_, h1, u, rfl, by obtain ⟨a, n, c, rfl⟩ := h2.isSlice; rfl, h2, h3⟩) ?_
      rintro v w' ⟨u, rfl, hu1, hu2, hbw⟩
      have hb2 := k9.trans (hbw.mono hs9)
      refine ⟨hb2, ?_⟩
      rw [putF_put _ _ _ _ _ hnd (by simp), l2]
      refine ⟨true, true, b2, false, a1, a2, false, d2, rfl, _, g1, g2, u, v2, rfl, fun _ h => (by cases h), fun h1 h2 => ?_, fun _ => ⟨rfl, by rw [if_pos rfl], hu1, hu2⟩, (fun h => by cases h), fun h => ?_, fun h => ?_, k7, (fun h => by cases h), kd2, hb2⟩
      · obtain ⟨g', h3, h4⟩ := k2 h1 h2
        exact ⟨g', by rw [if_neg (Ne.symm n23)]; exact h3, h4.below hbw h4.lt⟩
      · rw [if_neg (Ne.symm n25)]; exact ⟨(k5 h).1, (k5 h).2.1, (k5 h).2.2.below hbw (k5 h).2.2.lt⟩
      · rw [if_neg (Ne.symm n26)]; exact ⟨(k6 h).1, (k6 h).2.1, (k6 h).2.2.below hbw (k6 h).2.2.lt⟩
    · subst e
      have hc : c2 = false := by
        cases c2
        · rfl
        · have := (k4 rfl).1; cases this
      subst hc
      have hb2 := k9.alloc hs9 (.cells R2 27)
      refine wpOp_valueTo ib2 gb2 s2 db2 (rb2 _ _) ⟨hb2, ?_⟩
      rw [putF_put _ _ _ _ _ hnd (by simp), l3]
      refine ⟨b1, c1, true, false, a1, a2, d1, d2, rfl, _, g1, g2, v1, v2, rfl, fun h1 h2 => ?_, fun _ _ => ⟨w1.heap.size, by rw [if_pos rfl], Lies.new _ _ _⟩, fun h => ?_, (fun h => by cases h), fun h => ?_, fun h => ?_, k7, kd1, kd2, hb2⟩
      · obtain ⟨g, h3, h4⟩ := k1 h1 h2
        exact ⟨g, by rw [if_neg n13]; exact h3, h4.alloc _⟩
      · rw [if_neg n23]; exact ⟨(k3 h).1, (k3 h).2.1, (k3 h).2.2.1, (k3 h).2.2.2.alloc _⟩
      · rw [if_neg (Ne.symm n35)]; exact ⟨(k5 h).1, (k5 h).2.1, (k5 h).2.2.alloc _⟩
      · rw [if_neg (Ne.symm n36)]; exact ⟨(k6 h).1, (k6 h).2.1, (k6 h).2.2.alloc _⟩
    · subst e e1 e2
      obtain ⟨g, hg1, hg2⟩ := k2 rfl rfl
      have hd1f : d1 = false := by
        cases d1
        · rfl
        · have := (kd1 rfl).2.1; cases this
      subst hd1f
      have hd2f : d2 = false := by
        cases d2
        · rfl
        · have := kd2 rfl; cases this
      subst hd2f
      refine wpOp_callTo ic2 gc2 r2 dc2 34 _ (rc2 f _ w1 hg1) (fun v w' => ∃ u, v = .agg #[u] ∧ u.oneCell' = true ∧ OwnT w' 0 u q ∧ Below w1.heap.size w1 w') ((hc2 w1 g k9 hg2).mono fun e w' ⟨u, h1, h2, h3⟩ => ⟨_, h1, u, rfl, by obtain ⟨a, n, c, rfl⟩ := h2.isSlice; rfl, h2, h3⟩) ?_
      rintro v w' ⟨u, rfl, hu1, hu2, hbw⟩
      have hb2 := k9.trans (hbw.mono hs9)
      refine ⟨hb2, ?_⟩
      rw [putF_put _ _ _ _ _ hnd (by simp), l4]
      refine ⟨b1, true, true, true, a1, a2, false, false, rfl, _, g1, g2, v1, u, rfl, fun _ h => (by cases h), fun _ h => (by cases h), fun h => ?_, fun _ => ⟨rfl, rfl, by rw [if_pos rfl], hu1, hu2⟩, fun h => ?_, fun h => ?_, k7, (fun h => by cases h), (fun h => by cases h), hb2⟩
      · rw [if_neg n24]; exact ⟨(k3 h).1, (k3 h).2.1, (k3 h).2.2.1, (k3 h).2.2.2.kept hbw⟩
      · rw [if_neg (Ne.symm n45)]; exact ⟨(k5 h).1, (k5 h).2.1, (k5 h).2.2.below hbw (k5 h).2.2.lt⟩
      · rw [if_neg (Ne.symm n46)]; exact ⟨(k6 h).1, (k6 h).2.1, (k6 h).2.2.below hbw (k6 h).2.2.lt⟩
    · subst e
      have hd1f : d1 = false := by
        cases d1
        · rfl
        · have := (kd1 rfl).2.2.1; cases this
      subst hd1f
      have hb2 := k9.alloc hs9 (.cells #[.slice none 0 0] 27)
      refine wpOp_wp ia1 ga1 (wp_alloc24 op1 ⟨hb2, ?_⟩)
      rw [da1, putF_put _ _ _ _ _ hnd (by simp), l5]
      refine ⟨b1, c1, b2, c2, true, a2, false, d2, rfl, _, w1.heap.size, g2, v1, v2, rfl, fun h1 h2 => ?_, fun h1 h2 => ?_, fun h => ?_, fun h => ?_, fun _ => ⟨by rw [if_pos rfl], hs9, Lies.new _ _ _⟩, fun h => ?_, fun _ h => ?_, (fun h => by cases h), kd2, hb2⟩
      · obtain ⟨g, h3, h4⟩ := k1 h1 h2
        exact ⟨g, by rw [if_neg n15]; exact h3, h4.alloc _⟩
      · obtain ⟨g, h3, h4⟩ := k2 h1 h2
        exact ⟨g, by rw [if_neg n35]; exact h3, h4.alloc _⟩
      · rw [if_neg n25]; exact ⟨(k3 h).1, (k3 h).2.1, (k3 h).2.2.1, (k3 h).2.2.2.alloc _⟩
      · rw [if_neg n45]; exact ⟨(k4 h).1, (k4 h).2.1, (k4 h).2.2.1, (k4 h).2.2.2.1, (k4 h).2.2.2.2.alloc _⟩
      · rw [if_neg (Ne.symm n56)]; exact ⟨(k6 h).1, (k6 h).2.1, (k6 h).2.2.alloc _⟩
      · have := (k6 h).2.2.lt; omega
    · subst e
      have hd1f : d1 = false := by
        cases d1
        · rfl
        · have := (kd1 rfl).2.2.2; cases this
      subst hd1f
      have hd2f : d2 = false := by
        cases d2
        · rfl
        · have := kd2 rfl; cases this
      subst hd2f
      have hb2 := k9.alloc hs9 (.cells #[.slice none 0 0] 27)
      refine wpOp_wp ia2 ga2 (wp_alloc24 op2 ⟨hb2, ?_⟩)
      rw [da2, putF_put _ _ _ _ _ hnd (by simp), l6]
      refine ⟨b1, c1, b2, c2, a1, true, false, false, rfl, _, g1, w1.heap.size, v1, v2, rfl, fun h1 h2 => ?_, fun h1 h2 => ?_, fun h => ?_, fun h => ?_, fun h => ?_, fun _ => ⟨by rw [if_pos rfl], hs9, Lies.new _ _ _⟩, fun h _ => ?_, (fun h => by cases h), (fun h => by cases h), hb2⟩
      · obtain ⟨g, h3, h4⟩ := k1 h1 h2
        exact ⟨g, by rw [if_neg n16]; exact h3, h4.alloc _⟩
      · obtain ⟨g, h3, h4⟩ := k2 h1 h2
        exact ⟨g, by rw [if_neg n36]; exact h3, h4.alloc _⟩
      · rw [if_neg n26]; exact ⟨(k3 h).1, (k3 h).2.1, (k3 h).2.2.1, (k3 h).2.2.2.alloc _⟩
      · rw [if_neg n46]; exact ⟨(k4 h).1, (k4 h).2.1, (k4 h).2.2.1, (k4 h).2.2.2.1, (k4 h).2.2.2.2.alloc _⟩
      · rw [if_neg n56]; exact ⟨(k5 h).1, (k5 h).2.1, (k5 h).2.2.alloc _⟩
      · have := (k5 h).2.2.lt; omega
    · subst e e1 e2 e3 e4
      have hd2f : d2 = false := by
        cases d2
        · rfl
        · have := kd2 rfl; cases this
      subst hd2f
      obtain ⟨hb1t, hr1, hv1, ho1⟩ := k3 rfl
      obtain ⟨hb2t, -, hr2, hv2, ho2⟩ := k4 rfl
      obtain ⟨hp1, hg1, y1⟩ := k5 rfl
      obtain ⟨hp2, hg2, y2⟩ := k6 rfl
      have hb2 := below_setRow k9 g1 #[v1] hg1
      refine wpOp_wp id1 gd1 (wp_store_row 27 (.tmp p1) (.tmp r1) od1' g1 #[v1] ((putF_eval a0 f p1 (hsz p1 (by simp)) _ (by simp)).trans hp1) ((putF_eval a0 f r1 (hsz r1 (by simp)) _ (by simp)).trans hr1) 27 _ y1 info24 rfl (by simp [hv1]) ⟨hb2, ?_⟩)
      rw [dd1, put_none, l7]
      exact ⟨b1, true, b2, true, true, true, true, false, rfl, f, g1, g2, v1, v2, rfl, fun _ h => (by cases h), fun _ h => (by cases h), fun _ => ⟨hb1t, hr1, hv1, ho1.setRow24 y1 _⟩, fun _ => ⟨hb2t, rfl, hr2, hv2, ho2.setRow24 y1 _⟩, fun _ => ⟨hp1, hg1, y1.setRow _⟩, fun _ => ⟨hp2, hg2, y2.setRowOther _ _ (Ne.symm (k7 rfl rfl))⟩, k7, fun _ => ⟨rfl, rfl, rfl, rfl⟩, (fun h => by cases h), hb2⟩
    · subst e e1 e2 e3 e4 e5
      obtain ⟨hb1t, hr1, hv1, ho1⟩ := k3 rfl
      obtain ⟨hb2t, -, hr2, hv2, ho2⟩ := k4 rfl
      obtain ⟨hp1, hg1, y1⟩ := k5 rfl
      obtain ⟨hp2, hg2, y2⟩ := k6 rfl
      have hb2 := below_setRow k9 g2 #[v2] hg2
      refine wpOp_wp id2 gd2 (wp_store_row 27 (.tmp p2) (.tmp r2) od2' g2 #[v2] ((putF_eval a0 f p2 (hsz p2 (by simp)) _ (by simp)).trans hp2) ((putF_eval a0 f r2 (hsz r2 (by simp)) _ (by simp)).trans hr2) 27 _ y2 info24 rfl (by simp [hv2]) ⟨hb2, ?_⟩)
      rw [dd2, put_none, l8]
      exact ⟨b1, true, b2, true, true, true, true, true, rfl, f, g1, g2, v1, v2, rfl, fun _ h => (by cases h), fun _ h => (by cases h), fun _ => ⟨hb1t, hr1, hv1, ho1.setRow24 y2 _⟩, fun _ => ⟨hb2t, rfl, hr2, hv2, ho2.setRow24 y2 _⟩, fun _ => ⟨hp1, hg1, y1.setRowOther _ _ (k7 rfl rfl)⟩, fun _ => ⟨hp2, hg2, y2.setRow _⟩, k7, fun _ => ⟨rfl, rfl, rfl, rfl⟩, fun _ => rfl, hb2⟩
  · exact ⟨false, false, false, false, false, false, false, false, rfl, fun t => a0.tmps.getD t undef, 0, 0, .slice none 0 0, .slice none 0 0, (putF_self a0 _).symm, (fun h => by cases h), (fun h => by cases h), (fun h => by cases h), (fun h => by cases h), (fun h => by cases h), (fun h => by cases h), (fun h => by cases h), (fun h => by cases h), (fun h => by cases h), hb⟩
end Go.Proofs.YtieoiklgoeclaaaGreat
