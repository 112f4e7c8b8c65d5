/-
  Two operations of which either may come up; each by its value or its call.
-/
import Derived.Test.YtgempifedhiknaaGreatDoorInv
namespace Go.Proofs.YtgempifedhiknaaGreatDoor
set_option maxRecDepth 100000
open Go.RowKit

section
variable {P : Program} {ops : Array Oper} {Q : Exit → Act → World → Prop}
theorem wpOp_callTo {i : Nat} {o : Oper} {a : Act} {w : World} {K : Act → World → Prop} (hi : ops[i]? = some o) (hg : o.guard = none) (d : Tmp) (hd : o.dst = some d) (f : FuncId) (args : Array Value)
    (hr : (execOp a.eval o).run P w = .ok (.enter f args) w) (R : Value → World → Prop) (hc : Calls P f args w fun e w' => ∃ v, e = .returned v ∧ R v w') (h : ∀ v w', R v w' → K (a.put (some d) v) w') : wpOp P ops Q i K a w :=
  wpOp_call hi hg f args hr R hc (by rw [hd]; exact h)
theorem wpOp_valueTo {i : Nat} {o : Oper} {a : Act} {w w' : World} {K : Act → World → Prop} {v : Value} (hi : ops[i]? = some o) (hg : o.guard = none) (d : Tmp) (hd : o.dst = some d)
    (hr : (execOp a.eval o).run P w = .ok (.value v) w') (h : K (a.put (some d) v) w') : wpOp P ops Q i K a w := by
  refine wpOp_wp hi hg ?_
  unfold Oper.wp
  rw [hr, Oper.upon_value, hd]
  exact h
theorem wpAny_two {i j : Nat} {fuel : Nat} {listed : Array Bool} {a : Act} {w : World} {md : Region.Mode} (hr : Region.ready md ops listed = [i, j]) (l1 l2 : Array Bool) (h1 : listed.setIfInBounds i true = l1) (h2 : listed.setIfInBounds j true = l2)
    (k1 : wpOp P ops Q i (wpAny P md ops Q fuel l1) a w) (k2 : wpOp P ops Q j (wpAny P md ops Q fuel l2) a w) : wpAny P md ops Q (fuel + 1) listed a w := by
  subst h1 h2
  refine wpAny_all hr (by simp) ?_
  intro x hx
  simp only [List.mem_cons, List.not_mem_nil, or_false] at hx
  rcases hx with rfl | rfl
  · exact k1
  · exact k2
end

end Go.Proofs.YtgempifedhiknaaGreatDoor
