/-
  ValueWides returns true for any rows of totals, any numbers of 128 bits and any number, and its arguments read as they did. No condition.
-/
import Derived.Test.YtjngghihciimjaaGreatRows
import Derived.Test.YtjngghihciimjaaGreatJWi
namespace Go.Proofs.YtjngghihciimjaaGreat.valueWides
open Go.ChangeShapes Go.WideShapes Go.ChangeAt Go.RowKit

theorem own : ownKnob Tryz.prog.godebug = none := by kernel_rfl
set_option maxRecDepth 100000 in
theorem lifted (os : Os) (started : os.Started) (H : Type) (enc : TypeId × Value → H) :
    ReturnsInHanded {} Tryz.checked os 5 .any (Rows.valueWidesSpec.pre6 enc Tryz.prog Tryz.f5 Rows.valueWidesRow.domain false) (Rows.valueWidesSpec.post enc Tryz.prog Tryz.f5 false true false false) := by
  refine returnsInHanded_of_change_sized (C := Tryz.checked) own started (by kernel_rfl) Tryz.func5
    (ChangeSpec.witness6 (enc := enc) (C := Tryz.checked) false ⟨#[], #[.slice none 0 0, .slice none 0 0, .int .i64 0], []⟩ 8 (by kernel_rfl) (by kernel_rfl) (by kernel_rfl) (by kernel_rfl)) ?_
  intro W base args ds gs before hval0 hW _ hsz _
  have hval : ∀ (j : Nat) t v, Tryz.f5.params[j]? = some t → args[j]? = some v → Value.okWide Tryz.prog W .any base t v := hval0
  have hW' := hW
  obtain ⟨p, q, hA0, hV, rfl, hfz, hnd⟩ := hW
  have hA : DataW.TrodAll enc Tryz.prog W 0 (fun _ => true) true Tryz.f5.params.toList args.toList ds p := hA0
  have hsz' : (DataW.weightsEach Tryz.prog (Tryz.f5.params.toList ++ Rows.valueWidesSpec.plain.varTypes Tryz.prog) (ds ++ gs)).all (· ≤ reachBytes) = true := hsz
  rw [Tryz.params5] at hA hval hsz'
  obtain ⟨v0, vs0, d0, ds0, p0, q0, hargs, rfl, rfl, h0, r0⟩ := trodAll_cons hA
  obtain ⟨v1, vs1, d1, ds1, p1, q1, rfl, rfl, rfl, h1, r1⟩ := trodAll_cons r0
  obtain ⟨v2, vs2, d2, ds2, p2, q2, rfl, rfl, rfl, h2, r2⟩ := trodAll_cons r1
  obtain ⟨rfl, rfl, rfl⟩ := trodAll_nil r2
  obtain rfl : args = #[v0, v1, v2] := by cases args; simp_all
  obtain ⟨rfl, rfl⟩ := trodVars_none hV
  simp only [List.append_nil] at hW' hsz'
  have hreach : ∀ n ∈ d0.weights Tryz.prog 58, n ≤ reachBytes := fun n hn => of_decide_eq_true (List.all_eq_true.1 hsz' n (DataW.weights_mem_each (j := 0) rfl rfl n hn))
  obtain ⟨pr, rs, cr, rfl, hr, hrr⟩ := open_rows (hval 0 58 v0 rfl rfl) h0 hreach
  obtain ⟨pw, ws, cw, rfl, hw⟩ := open_wides (hval 1 59 v1 rfl rfl) h1
  obtain ⟨n, rfl, f0, f1⟩ := open_num (hval 2 2 v2 rfl rfl) h2
  clear hA0 hval0 hsz hsz' hreach
  refine (widesLaw_any W pr rs cr pw ws cw n hr (fun r h => (hrr r h).1) (fun r h => (hrr r h).2.1) hw (fun p hp => ?_) f0 f1).mono fun e W' ⟨he, hbl⟩ => ?_
  · obtain ⟨r, hr1, hr2⟩ := List.mem_flatMap.1 hp
    obtain ⟨a, ha, rfl⟩ := List.mem_map.1 hr2
    have h3 := (hrr r hr1).2.2 a ha
    exact ⟨h3.1.1, h3.2⟩
  subst he
  have hlt := hW'.lt
  refine ⟨_, rfl, [d0, d1, d2], [], p0 ++ (p1 ++ p2), [], p0 ++ (p1 ++ p2), [], hW', ?_, ?_, rfl, hbl.frame _, fun h => by cases h⟩
  · exact trodAll_cons_mk (shut_bool Tryz.underlying4 _) trodAll_mk0
  · refine trodAll_cons_mk (args_stay (by kernel_rfl) (of_decide_eq_true (by kernel_rfl)) h0 hbl ?_) (trodAll_cons_mk (args_stay (by kernel_rfl) (of_decide_eq_true (by kernel_rfl)) h1 hbl ?_) (trodAll_mk1 (args_stay (by kernel_rfl) (of_decide_eq_true (by kernel_rfl)) h2 hbl ?_)))
    all_goals exact fun x hx => hlt x (by simp [hx])

theorem over : Rows.valueWidesRow.holds Tryz.pinned (OpenSpec.ofChange Rows.valueWidesSpec) :=
  OpenClaim.holds_of_wide 5 Tryz.f5 rfl rfl rfl rfl rfl rfl rfl ⟨rfl, rfl, rfl, rfl, rfl⟩ rfl rfl rfl rfl rfl (by kernel_rfl) Tryz.func5 (by kernel_rfl)
    (of_decide_eq_true (by kernel_rfl)) (by unfold Func.isWrapper; first | (rw [if_pos (by decide +kernel)]; kernel_rfl) | (rw [if_neg (by decide +kernel)]; exact ⟨rfl, rfl⟩))
    (fun os started H enc _ => lifted os started H enc)
end Go.Proofs.YtjngghihciimjaaGreat.valueWides
namespace Go.Proofs.YtjngghihciimjaaGreat
theorem valueWides_said : Rows.ValueWidesSaid := valueWides.over
end Go.Proofs.YtjngghihciimjaaGreat
