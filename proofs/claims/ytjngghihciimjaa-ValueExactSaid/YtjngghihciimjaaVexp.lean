/-
  ValueExact returns true for any bundles that go in, any that come out, whatever is minted, any fee and any bundle more, and its arguments read as they did. No condition.
-/
import Derived.Test.YtjngghihciimjaaRows
import Derived.Test.YtjngghihciimjaaVdx
import Derived.Test.YtjngghihciimjaaVex
namespace Go.Proofs.Ytjngghihciimjaa.valueExact
open Go.ChangeShapes Go.WideShapes Go.ChangeAt Go.RowKit

theorem own : ownKnob Try.prog.godebug = none := by kernel_rfl
set_option maxRecDepth 100000 in
theorem lifted (os : Os) (started : os.Started) (H : Type) (enc : TypeId × Value → H) :
    ReturnsInHanded {} Try.checked os 4 .any (Rows.valueExactSpec.pre6 enc Try.prog Try.f4 Rows.valueExactRow.domain false) (Rows.valueExactSpec.post enc Try.prog Try.f4 false true false false) := by
  refine returnsInHanded_of_change_sized (C := Try.checked) own started (by kernel_rfl) Try.func4
    (ChangeSpec.witness6 (enc := enc) (C := Try.checked) false ⟨#[], #[.slice none 0 0, .slice none 0 0, .slice none 0 0, .int .i64 0, .agg #[.int .i64 0, .slice none 0 0]], []⟩ 8 (by kernel_rfl) (by kernel_rfl) (by kernel_rfl) (by kernel_rfl)) ?_
  intro W base args ds gs before hval0 hW _ hsz _
  have hval : ∀ (j : Nat) t v, Try.f4.params[j]? = some t → args[j]? = some v → Value.okWide Try.prog W .any base t v := hval0
  have hW' := hW
  obtain ⟨p, q, hA0, hV, rfl, hfz, hnd⟩ := hW
  have hA : DataW.TrodAll enc Try.prog W 0 (fun _ => true) true Try.f4.params.toList args.toList ds p := hA0
  rw [Try.params4] at hA hval
  obtain ⟨v0, vs0, d0, ds0, p0, q0, hargs, rfl, rfl, h0, r0⟩ := trodAll_cons hA
  obtain ⟨v1, vs1, d1, ds1, p1, q1, rfl, rfl, rfl, h1, r1⟩ := trodAll_cons r0
  obtain ⟨v2, vs2, d2, ds2, p2, q2, rfl, rfl, rfl, h2, r2⟩ := trodAll_cons r1
  obtain ⟨v3, vs3, d3, ds3, p3, q3, rfl, rfl, rfl, h3, r3⟩ := trodAll_cons r2
  obtain ⟨v4, vs4, d4, ds4, p4, q4, rfl, rfl, rfl, h4, r4⟩ := trodAll_cons r3
  obtain ⟨rfl, rfl, rfl⟩ := trodAll_nil r4
  obtain rfl : args = #[v0, v1, v2, v3, v4] := by cases args; simp_all
  obtain ⟨rfl, rfl⟩ := trodVars_none hV
  simp only [List.append_nil] at hW'
  obtain ⟨pi, vs, ci, rfl, hv, hrv, hci⟩ := open_values (hval 0 29 v0 rfl rfl) h0
  obtain ⟨pm, ml, cm, rfl, hm, hcm⟩ := open_assets (hval 1 22 v1 rfl rfl) h1
  obtain ⟨po, us, co, rfl, hu, hru, hco⟩ := open_values (hval 2 29 v2 rfl rfl) h2
  obtain ⟨fee, rfl, f0, f1⟩ := open_num (hval 3 2 v3 rfl rfl) h3
  obtain ⟨m, rfl, hmo, hrm⟩ := open_valueC (hval 4 24 v4 rfl rfl) h4
  clear hA0 hval0 hsz
  refine (exact_any W pi vs ci pm ml cm po us co fee m hv hm hu f0 f1 hmo hci hco hru).mono fun e W' ⟨he, hbl⟩ => ?_
  subst he
  have hlt := hW'.lt
  refine ⟨_, rfl, [d0, d1, d2, d3, d4], [], p0 ++ (p1 ++ (p2 ++ (p3 ++ p4))), [], p0 ++ (p1 ++ (p2 ++ (p3 ++ p4))), [], hW', ?_, ?_, rfl, hbl.frame _, fun h => by cases h⟩
  · exact trodAll_cons_mk (shut_bool Try.underlying4 _) trodAll_mk0
  · refine trodAll_cons_mk (args_stay (by kernel_rfl) (of_decide_eq_true (by kernel_rfl)) h0 hbl ?_) (trodAll_cons_mk (args_stay (by kernel_rfl) (of_decide_eq_true (by kernel_rfl)) h1 hbl ?_) (trodAll_cons_mk (args_stay (by kernel_rfl) (of_decide_eq_true (by kernel_rfl)) h2 hbl ?_) (trodAll_cons_mk (args_stay (by kernel_rfl) (of_decide_eq_true (by kernel_rfl)) h3 hbl ?_) (trodAll_mk1 (args_stay (by kernel_rfl) (of_decide_eq_true (by kernel_rfl)) h4 hbl ?_)))))
    all_goals exact fun x hx => hlt x (by simp [hx])

theorem over : Rows.valueExactRow.holds Try.pinned (OpenSpec.ofChange Rows.valueExactSpec) :=
  OpenClaim.holds_of_wide 4 Try.f4 rfl rfl rfl rfl rfl rfl rfl ⟨rfl, rfl, rfl, rfl, rfl⟩ rfl rfl rfl rfl rfl (by kernel_rfl) Try.func4 (by kernel_rfl)
    (of_decide_eq_true (by kernel_rfl)) (by unfold Func.isWrapper; first | (rw [if_pos (by decide +kernel)]; kernel_rfl) | (rw [if_neg (by decide +kernel)]; exact ⟨rfl, rfl⟩))
    (fun os started H enc _ => lifted os started H enc)
end Go.Proofs.Ytjngghihciimjaa.valueExact
namespace Go.Proofs.Ytjngghihciimjaa
theorem valueExact_said : Rows.ValueExactSaid := valueExact.over
end Go.Proofs.Ytjngghihciimjaa
