/-
  ValueSums returns true for any bundles, any assets minted, any other bundles and any fee, and its arguments read as they did. No condition.
-/
import Derived.Test.YtjngghihciimjaaGreatRows
import Derived.Test.YtjngghihciimjaaGreatJSw
import Derived.Test.YtjngghihciimjaaGreatJVdx
namespace Go.Proofs.YtjngghihciimjaaGreat.valueSums
open Go.ChangeShapes Go.WideShapes Go.ChangeAt Go.RowKit

theorem own : ownKnob Tryz.prog.godebug = none := by kernel_rfl
set_option maxRecDepth 100000 in
theorem lifted (os : Os) (started : os.Started) (H : Type) (enc : TypeId × Value → H) :
    ReturnsInHanded {} Tryz.checked os 4 .any (Rows.valueSumsSpec.pre6 enc Tryz.prog Tryz.f4 Rows.valueSumsRow.domain false) (Rows.valueSumsSpec.post enc Tryz.prog Tryz.f4 false true false false) := by
  refine returnsInHanded_of_change_sized (C := Tryz.checked) own started (by kernel_rfl) Tryz.func4
    (ChangeSpec.witness6 (enc := enc) (C := Tryz.checked) false ⟨#[], #[.slice none 0 0, .slice none 0 0, .slice none 0 0, .int .i64 0], []⟩ 8 (by kernel_rfl) (by kernel_rfl) (by kernel_rfl) (by kernel_rfl)) ?_
  intro W base args ds gs before hval0 hW _ hsz _
  have hval : ∀ (j : Nat) t v, Tryz.f4.params[j]? = some t → args[j]? = some v → Value.okWide Tryz.prog W .any base t v := hval0
  have hW' := hW
  obtain ⟨p, q, hA0, hV, rfl, hfz, hnd⟩ := hW
  have hA : DataW.TrodAll enc Tryz.prog W 0 (fun _ => true) true Tryz.f4.params.toList args.toList ds p := hA0
  rw [Tryz.params4] at hA hval
  obtain ⟨v0, vs0, d0, ds0, p0, q0, hargs, rfl, rfl, h0, r0⟩ := trodAll_cons hA
  obtain ⟨v1, vs1, d1, ds1, p1, q1, rfl, rfl, rfl, h1, r1⟩ := trodAll_cons r0
  obtain ⟨v2, vs2, d2, ds2, p2, q2, rfl, rfl, rfl, h2, r2⟩ := trodAll_cons r1
  obtain ⟨v3, vs3, d3, ds3, p3, q3, rfl, rfl, rfl, h3, r3⟩ := trodAll_cons r2
  obtain ⟨rfl, rfl, rfl⟩ := trodAll_nil r3
  obtain rfl : args = #[v0, v1, v2, v3] := by cases args; simp_all
  obtain ⟨rfl, rfl⟩ := trodVars_none hV
  simp only [List.append_nil] at hW'
  obtain ⟨pi, vs, ci, rfl, hvi, hri, hci⟩ := open_values (hval 0 28 v0 rfl rfl) h0
  obtain ⟨pm, ml, cm, rfl, hvm, hcm⟩ := open_assets (hval 1 22 v1 rfl rfl) h1
  obtain ⟨po, us, co, rfl, hvo, hro, hco⟩ := open_values (hval 2 28 v2 rfl rfl) h2
  obtain ⟨fee, rfl, f0, f1⟩ := open_num (hval 3 2 v3 rfl rfl) h3
  clear hA0 hval0 hsz
  refine (sumsLaw_any W pi vs ci pm ml cm po us co fee hvi hri hci hvm hcm hvo hro hco f0 f1).mono fun e W' ⟨he, hbl⟩ => ?_
  subst he
  have hlt := hW'.lt
  refine ⟨_, rfl, [d0, d1, d2, d3], [], p0 ++ (p1 ++ (p2 ++ p3)), [], p0 ++ (p1 ++ (p2 ++ p3)), [], hW', ?_, ?_, rfl, hbl.frame _, fun h => by cases h⟩
  · exact trodAll_cons_mk (shut_bool Tryz.underlying4 _) trodAll_mk0
  · refine trodAll_cons_mk (args_stay (by kernel_rfl) (of_decide_eq_true (by kernel_rfl)) h0 hbl ?_) (trodAll_cons_mk (args_stay (by kernel_rfl) (of_decide_eq_true (by kernel_rfl)) h1 hbl ?_) (trodAll_cons_mk (args_stay (by kernel_rfl) (of_decide_eq_true (by kernel_rfl)) h2 hbl ?_) (trodAll_mk1 (args_stay (by kernel_rfl) (of_decide_eq_true (by kernel_rfl)) h3 hbl ?_))))
    all_goals exact fun x hx => hlt x (by simp [hx])

theorem over : Rows.valueSumsRow.holds Tryz.pinned (OpenSpec.ofChange Rows.valueSumsSpec) :=
  OpenClaim.holds_of_wide 4 Tryz.f4 rfl rfl rfl rfl rfl rfl rfl ⟨rfl, rfl, rfl, rfl, rfl⟩ rfl rfl rfl rfl rfl (by kernel_rfl) Tryz.func4 (by kernel_rfl)
    (of_decide_eq_true (by kernel_rfl)) (by unfold Func.isWrapper; first | (rw [if_pos (by decide +kernel)]; kernel_rfl) | (rw [if_neg (by decide +kernel)]; exact ⟨rfl, rfl⟩))
    (fun os started H enc _ => lifted os started H enc)
end Go.Proofs.YtjngghihciimjaaGreat.valueSums
namespace Go.Proofs.YtjngghihciimjaaGreat
theorem valueSums_said : Rows.ValueSumsSaid := valueSums.over
end Go.Proofs.YtjngghihciimjaaGreat
