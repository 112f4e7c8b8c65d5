/-
  TermOrder returns true for any three terms and any node, and its arguments read as they did. No condition.
-/
import Derived.Test.YtieoiklgoeclaaaRows
import Derived.Test.YtieoiklgoeclaaaTd
namespace Go.Proofs.Ytieoiklgoeclaaa.termOrder
open Go.ChangeShapes Go.WideShapes Go.ChangeAt Go.RowKit

theorem own : ownKnob Try.prog.godebug = none := by kernel_rfl
set_option maxRecDepth 100000 in
theorem lifted (os : Os) (started : os.Started) (H : Type) (enc : TypeId × Value → H) :
    ReturnsInHanded {} Try.checked os 4 .any (Rows.termOrderSpec.pre6 enc Try.prog Try.f4 Rows.termOrderRow.domain false) (Rows.termOrderSpec.post enc Try.prog Try.f4 false true false false) := by
  refine returnsInHanded_of_change_sized (C := Try.checked) own started (by kernel_rfl) Try.func4
    (ChangeSpec.witness6 (enc := enc) (C := Try.checked) false ⟨#[], #[.agg #[.slice none 0 0], .agg #[.slice none 0 0], .agg #[.slice none 0 0], .agg #[.int .i64 0, .int .i64 0, .int .u64 0, .string ⟨#[]⟩, .int .i64 0]], []⟩ 8 (by kernel_rfl) (by kernel_rfl) (by kernel_rfl) (by kernel_rfl)) ?_
  intro W base args ds gs before hval0 hW _ hsz _
  have hval : ∀ (j : Nat) t v, Try.f4.params[j]? = some t → args[j]? = some v → Value.okWide Try.prog W .any base t v := hval0
  have hW' := hW
  obtain ⟨p, q, hA0, hV, rfl, hfz, hnd⟩ := hW
  have hA : DataW.TrodAll enc Try.prog W 0 (fun _ => true) true Try.f4.params.toList args.toList ds p := hA0
  have hsz' : (DataW.weightsEach Try.prog (Try.f4.params.toList ++ Rows.termOrderSpec.plain.varTypes Try.prog) (ds ++ gs)).all (· ≤ reachBytes) = true := hsz
  rw [Try.params4] at hA hval hsz'
  obtain ⟨v0, vs0, d0, ds0, p0, q0, hargs, rfl, rfl, h0, r0⟩ := trodAll_cons hA
  obtain ⟨v1, vs1, d1, ds1, p1, q1, rfl, rfl, rfl, h1, r1⟩ := trodAll_cons r0
  obtain ⟨v2, vs2, d2, ds2, p2, q2, rfl, rfl, rfl, h2, r2⟩ := trodAll_cons r1
  obtain ⟨v3, vs3, d3, ds3, p3, q3, rfl, rfl, rfl, h3, r3⟩ := trodAll_cons r2
  obtain ⟨rfl, rfl, rfl⟩ := trodAll_nil r3
  obtain rfl : args = #[v0, v1, v2, v3] := by cases args; simp_all
  obtain ⟨rfl, rfl⟩ := trodVars_none hV
  simp only [List.append_nil] at hW' hsz'
  have hr0 : ∀ n ∈ d0.weights Try.prog 24, n ≤ reachBytes := fun n hn => of_decide_eq_true (List.all_eq_true.1 hsz' n (DataW.weights_mem_each (j := 0) rfl rfl n hn))
  have hr1 : ∀ n ∈ d1.weights Try.prog 24, n ≤ reachBytes := fun n hn => of_decide_eq_true (List.all_eq_true.1 hsz' n (DataW.weights_mem_each (j := 1) rfl rfl n hn))
  have hr2 : ∀ n ∈ d2.weights Try.prog 24, n ≤ reachBytes := fun n hn => of_decide_eq_true (List.all_eq_true.1 hsz' n (DataW.weights_mem_each (j := 2) rfl rfl n hn))
  have hr3 : ∀ n ∈ d3.weights Try.prog 32, n ≤ reachBytes := fun n hn => of_decide_eq_true (List.all_eq_true.1 hsz' n (DataW.weights_mem_each (j := 3) rfl rfl n hn))
  obtain ⟨a, rfl, ha⟩ := open_term (hval 0 24 v0 rfl rfl) h0 hr0
  obtain ⟨b, rfl, hb⟩ := open_term (hval 1 24 v1 rfl rfl) h1 hr1
  obtain ⟨c, rfl, hc⟩ := open_term (hval 2 24 v2 rfl rfl) h2 hr2
  obtain ⟨n, rfl, hn, -, -⟩ := open_node (hval 3 32 v3 rfl rfl) h3 hr3
  clear hA0 hval0 hsz
  refine (orderL_any W a b c n ha hb hc hn).mono fun e W' ⟨he, hbl⟩ => ?_
  subst he
  have hlt := hW'.lt
  refine ⟨_, rfl, [d0, d1, d2, d3], [], p0 ++ (p1 ++ (p2 ++ p3)), [], p0 ++ (p1 ++ (p2 ++ p3)), [], hW', ?_, ?_, rfl, hbl.frame _, fun h => by cases h⟩
  · exact trodAll_cons_mk (shut_bool Try.underlying4 _) trodAll_mk0
  · refine trodAll_cons_mk (args_stay (by kernel_rfl) (of_decide_eq_true (by kernel_rfl)) h0 hbl ?_) (trodAll_cons_mk (args_stay (by kernel_rfl) (of_decide_eq_true (by kernel_rfl)) h1 hbl ?_) (trodAll_cons_mk (args_stay (by kernel_rfl) (of_decide_eq_true (by kernel_rfl)) h2 hbl ?_) (trodAll_mk1 (args_stay (by kernel_rfl) (of_decide_eq_true (by kernel_rfl)) h3 hbl ?_))))
    all_goals exact fun x hx => hlt x (by simp [hx])

theorem over : Rows.termOrderRow.holds Try.pinned (OpenSpec.ofChange Rows.termOrderSpec) :=
  OpenClaim.holds_of_wide 4 Try.f4 rfl rfl rfl rfl rfl rfl rfl ⟨rfl, rfl, rfl, rfl, rfl⟩ rfl rfl rfl rfl rfl (by kernel_rfl) Try.func4 (by kernel_rfl)
    (of_decide_eq_true (by kernel_rfl)) (by unfold Func.isWrapper; first | (rw [if_pos (by decide +kernel)]; kernel_rfl) | (rw [if_neg (by decide +kernel)]; exact ⟨rfl, rfl⟩))
    (fun os started H enc _ => lifted os started H enc)
end Go.Proofs.Ytieoiklgoeclaaa.termOrder
namespace Go.Proofs.Ytieoiklgoeclaaa
theorem termOrder_said : Rows.TermOrderSaid := termOrder.over
end Go.Proofs.Ytieoiklgoeclaaa
