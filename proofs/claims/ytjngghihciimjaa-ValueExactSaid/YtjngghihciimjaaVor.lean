/-
  A region whose order Go leaves open, whose last operations write where its first ones read: what is read first may be taken first, if the writers wait for it.
-/
import Derived.Test.YtjngghihciimjaaVh
namespace Go.Proofs.Ytjngghihciimjaa
set_option maxRecDepth 100000

section
variable {P : Program} {md : Region.Mode} {ops : Array Oper} {Q : Exit → Act → World → Prop} {late : Nat → Bool} {S : World → Prop}
/-- Whatever order is picked from here on; S holds behind each operation that is not late. -/
def wpLate (P : Program) (md : Region.Mode) (ops : Array Oper) (Q : Exit → Act → World → Prop) (late : Nat → Bool) (S : World → Prop) : Nat → Array Bool → Act → World → Prop
  | 0, listed, a, w => Region.ready md ops listed = [] ∧ Q .normal a w
  | n + 1, listed, a, w =>
    (Region.ready md ops listed = [] → Q .normal a w) ∧
    ∀ j ∈ Region.ready md ops listed, wpOp P ops Q j (fun a' w' => (late j = false → S w') ∧ wpLate P md ops Q late S n (listed.setIfInBounds j true) a' w') a w
theorem wpLate.any : ∀ (n : Nat) (listed : Array Bool) (a : Act) (w : World), wpLate P md ops Q late S n listed a w → wpAny P md ops Q n listed a w
  | 0, _, _, _, h => h
  | n + 1, _, _, _, h => ⟨h.1, fun j hj => wpOp_mono (fun a' w' h' => wpLate.any n _ a' w' h'.2) (h.2 j hj)⟩
theorem late_first {i : Nat} {oi : Oper} {v : Value} (hi : ops[i]? = some oi) (hsel : ∀ (j : Nat) (o : Oper) cs b, ops[j]? = some o → o.op ≠ .select cs b)
    (hQ : ∀ c a w, Q (.panic c) (a.put oi.dst v) w → Q (.panic c) a w) (hlate : ∀ j oj, ops[j]? = some oj → late j = true → ∃ e, e ∈ oj.after ∧ Region.binds md e = true ∧ e.on = i) (n : Nat) :
    ∀ (listed : Array Bool) (a : Act) (w : World),
      (∀ j oj, ops[j]? = some oj → j ≠ i → listed.getD j true = false → (∀ e ∈ oj.after, Region.binds md e = true → e.on ≠ i) → oi.apart ops oj = true) →
      i ∈ Region.ready md ops listed → YieldsIf P ops S oi v a → S w → wpLate P md ops Q late S n (listed.setIfInBounds i true) (a.put oi.dst v) w → wpLate P md ops Q late S (n + 1) listed a w := by
  induction n with
  | zero =>
    intro listed a w _ hr hy hS H
    refine ⟨fun e => (by rw [e] at hr; cases hr), fun j hj => ?_⟩
    by_cases e : j = i
    · subst e
      exact hy.wpOp hi hS ⟨fun _ => hS, H⟩
    · have hm := ready_mono hj e
      rw [H.1] at hm
      cases hm
  | succ n ih =>
    intro listed a w hap hr hy hS H
    refine ⟨fun e => (by rw [e] at hr; cases hr), fun j hj => ?_⟩
    by_cases e : j = i
    · subst e
      exact hy.wpOp hi hS ⟨fun _ => hS, H⟩
    · obtain ⟨hu, oj, hoj, hall⟩ := mem_ready.1 hj
      have hfree : ∀ x ∈ oj.after, Region.binds md x = true → x.on ≠ i := fun x hx hb he => by
        have q1 := hall x hx hb
        have q0 := (mem_ready.1 hr).1
        rw [he] at q1
        rcases Nat.lt_or_ge i listed.size with hs | hs
        · simp [hs] at q0 q1
          rw [q0] at q1
          cases q1
        · simp [Array.getElem?_eq_none hs] at q1
      have hl : late j = false := by
        cases hlj : late j with
        | false => rfl
        | true =>
          obtain ⟨x, hx, hb, he⟩ := hlate j oj hoj hlj
          exact absurd he (hfree x hx hb)
      have q2 := wpOp_putIf hoj (hap j oj hoj e hu hfree) (fun cs b => hsel i oi cs b hi) (fun cs b => hsel j oj cs b hoj) hQ hy (H.2 j (ready_mono hj e))
      refine wpOp_mono (fun a' w' q3 => ⟨q3.2.1, ih (listed.setIfInBounds j true) a' w' (fun k ok hk hki hun hno => hap k ok hk hki ?_ hno) (ready_mono hr (Ne.symm e)) q3.1 (q3.2.1 hl) ?_⟩) q2
      · by_cases ejk : j = k
        · subst ejk
          exact hu
        · rw [getD_set_ne true ejk] at hun
          exact hun
      · rw [Array.setIfInBounds_comm _ _ e]
        exact q3.2.2
/-- Do all late ones wait for i? -/
def waitsB (md : Region.Mode) (ops : Array Oper) (late : Nat → Bool) (i : Nat) : Bool := (List.range ops.size).all fun j => !late j || (match ops[j]? with | some o => o.after.any fun e => Region.binds md e && e.on == i | none => true)
theorem waits_of {i : Nat} (h : waitsB md ops late i = true) : ∀ j oj, ops[j]? = some oj → late j = true → ∃ e, e ∈ oj.after ∧ Region.binds md e = true ∧ e.on = i := fun j oj hj hl => by
  unfold waitsB at h
  rw [List.all_eq_true] at h
  have h2 := h j (List.mem_range.2 (Array.getElem?_eq_some_iff.1 hj).1)
  rw [hl, hj] at h2
  simp only [Bool.not_true, Bool.false_or, Array.any_eq_true'] at h2
  obtain ⟨e, he, h3⟩ := h2
  rw [Bool.and_eq_true, beq_iff_eq] at h3
  exact ⟨e, he, h3⟩
theorem late_take {i : Nat} {oi : Oper} {v : Value} {n : Nat} {listed : Array Bool} {a : Act} {w : World} (hi : ops[i]? = some oi) (d : Tmp) (hd : oi.dst = some d)
    (hs : Region.noSelect ops = true) (hf : Region.free md ops listed i = true) (hr : (Region.ready md ops listed).contains i = true) (hwt : waitsB md ops late i = true) (hQ : ∀ c a w, Q (.panic c) (a.put (some d) v) w → Q (.panic c) a w)
    (hw : Region.wanted oi (yielded ops a.tmps) = true) (hy : ∀ w, S w → (execOp a.eval oi).run P w = .ok (.value v) w) (hS : S w) (l2 : Array Bool) (hl : listed.setIfInBounds i true = l2)
    (h : wpLate P md ops Q late S n l2 (a.put (some d) v) w) : wpLate P md ops Q late S (n + 1) listed a w := by
  subst hl
  rw [← hd] at h hQ
  exact late_first hi (Region.noSelect_spec hs) hQ (waits_of hwt) n listed a w (Region.free_spec hi hf) (by simpa using hr) (.inl ⟨hw, hy⟩) hS h
theorem late_one {i : Nat} {n : Nat} {listed : Array Bool} {a : Act} {w : World} (hr : Region.ready md ops listed = [i]) (l2 : Array Bool) (hl : listed.setIfInBounds i true = l2)
    (h : wpOp P ops Q i (fun a' w' => (late i = false → S w') ∧ wpLate P md ops Q late S n l2 a' w') a w) : wpLate P md ops Q late S (n + 1) listed a w := by
  subst hl
  refine ⟨fun e => (by rw [hr] at e; cases e), fun j hj => ?_⟩
  rw [hr] at hj
  obtain rfl : j = i := by simpa using hj
  exact h
theorem late_done {listed : Array Bool} {a : Act} {w : World} (hr : Region.ready md ops listed = []) (h : Q .normal a w) : ∀ n, wpLate P md ops Q late S n listed a w
  | 0 => ⟨hr, h⟩
  | _ + 1 => ⟨fun _ => h, (by rw [hr]; simp)⟩
theorem wpOp_skipG {i : Nat} {o : Oper} {a : Act} {w w' : World} {K : Act → World → Prop} (hi : ops[i]? = some o) (hw : Region.wanted o (yielded ops a.tmps) = true) (hd : o.dst = none)
    (hr : (execOp a.eval o).run P w = .ok .skip w') (h : K a w') : wpOp P ops Q i K a w := by
  unfold wpOp
  rw [hi]
  show if Region.wanted o (yielded ops a.tmps) = true then _ else _
  rw [if_pos hw]
  refine .inl ?_
  unfold Oper.wp
  rw [hr]
  show K (a.put o.dst undef) w'
  rw [hd]
  exact h
/-- A panic's post by itself, where no deferred call waits. -/
def OrPanic (T : List PanicEntry → World → Prop) (Q : Exit → Act → World → Prop) : Exit → Act → World → Prop
  | .panic c, a, w => a.defers = [] ∧ T c w
  | e, a, w => Q e a w
theorem wp_region_orPanic {id : Nat} {b : Bool} {a : Act} {w : World} (T : List PanicEntry → World → Prop) (hT : ∀ c a w, a.defers = [] → T c w → Q (.panic c) a w) (h : (Code.region id ops b).wp P (OrPanic T Q) a w) : (Code.region id ops b).wp P Q a w :=
  Code.wp_mono (fun e a w h => by cases e <;> first | exact h | exact hT _ _ _ h.1 h.2) h
theorem wpOp_callP {i : Nat} {o : Oper} {a : Act} {w : World} {K : Act → World → Prop} (hi : ops[i]? = some o) (hw : Region.wanted o (yielded ops a.tmps) = true) (d : Tmp) (hd : o.dst = some d) (f : FuncId) (args : Array Value)
    (hr : (execOp a.eval o).run P w = .ok (.enter f args) w) (R : Value → World → Prop) (T : List PanicEntry → World → Prop) (hc : Calls P f args w fun e w' => (∃ v, e = .returned v ∧ R v w') ∨ (∃ c, e = .panicked c ∧ T c w')) (h : ∀ v w', R v w' → K (a.put (some d) v) w') (hp : ∀ c w', T c w' → Q (.panic c) a w') : wpOp P ops Q i K a w := by
  unfold wpOp
  rw [hi]
  show if Region.wanted o (yielded ops a.tmps) = true then _ else _
  rw [if_pos hw]
  refine .inl ?_
  unfold Oper.wp
  rw [hr, Oper.upon_enter]
  refine hc.mono fun e w' hh => ?_
  rcases hh with ⟨v, rfl, hR⟩ | ⟨c, rfl, hR⟩
  · rw [hd]
    exact h v w' hR
  · exact hp c w' hR
theorem wp_region_late {id : Nat} {a : Act} {w : World} (late : Nat → Bool) (S : World → Prop) (hm : P.follows .mixedOrders = true)
    (h : wpLate P .any ops Q late S ops.size (Array.replicate ops.size false) a { w with drawn := w.drawn + 1 }) : (Code.region id ops true).wp P Q a w :=
  wp_region_any hm (wpLate.any _ _ _ _ h)
end
end Go.Proofs.Ytjngghihciimjaa
