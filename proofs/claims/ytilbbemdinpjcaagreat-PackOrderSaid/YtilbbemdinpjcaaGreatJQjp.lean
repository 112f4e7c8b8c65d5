/-
  PackOrder returns true for any three refs and any entries, and its arguments read as they did. No condition.
-/
import Derived.Test.YtilbbemdinpjcaaGreatRows
import Derived.Test.YtilbbemdinpjcaaGreatJQj
namespace Go.Proofs.YtilbbemdinpjcaaGreat.packOrder
open Go.ChangeShapes Go.WideShapes Go.ChangeAt Go.RowKit

theorem own : ownKnob Tryz.prog.godebug = none := by kernel_rfl
def zRef : Value := .agg (Array.replicate 32 (.int .u8 0) ++ #[.int .i64 0])
set_option maxRecDepth 100000 in
theorem lifted (os : Os) (started : os.Started) (H : Type) (enc : TypeId × Value → H) :
    ReturnsInHanded {} Tryz.checked os 8 .any (Rows.packOrderSpec.pre6 enc Tryz.prog Tryz.f8 Rows.packOrderRow.domain false) (Rows.packOrderSpec.post enc Tryz.prog Tryz.f8 false true false false) := by
  refine returnsInHanded_of_change_sized (C := Tryz.checked) own started (by kernel_rfl) Tryz.func8
    (ChangeSpec.witness6 (enc := enc) (C := Tryz.checked) false ⟨#[], #[zRef, zRef, zRef, .slice none 0 0], []⟩ 8 (by kernel_rfl) (by kernel_rfl) (by kernel_rfl) (by kernel_rfl)) ?_
  intro W base args ds gs before hval0 hW _ hsz _
  have hval : ∀ (j : Nat) t v, Tryz.f8.params[j]? = some t → args[j]? = some v → Value.okWide Tryz.prog W .any base t v := hval0
  have hW' := hW
  obtain ⟨p, q, hA0, hV, rfl, hfz, hnd⟩ := hW
  have hA : DataW.TrodAll enc Tryz.prog W 0 (fun _ => true) true Tryz.f8.params.toList args.toList ds p := hA0
  have hsz' : (DataW.weightsEach Tryz.prog (Tryz.f8.params.toList ++ Rows.packOrderSpec.plain.varTypes Tryz.prog) (ds ++ gs)).all (· ≤ reachBytes) = true := hsz
  rw [Tryz.params8] at hA hval hsz'
  obtain ⟨v0, vs0, d0, ds0, p0, q0, hargs, rfl, rfl, h0, r0⟩ := trodAll_cons hA
  obtain ⟨v1, vs1, d1, ds1, p1, q1, rfl, rfl, rfl, h1, r1⟩ := trodAll_cons r0
  obtain ⟨v2, vs2, d2, ds2, p2, q2, rfl, rfl, rfl, h2, r2⟩ := trodAll_cons r1
  obtain ⟨v3, vs3, d3, ds3, p3, q3, rfl, rfl, rfl, h3, r3⟩ := trodAll_cons r2
  obtain ⟨rfl, rfl, rfl⟩ := trodAll_nil r3
  obtain rfl : args = #[v0, v1, v2, v3] := by cases args; simp_all
  obtain ⟨rfl, rfl⟩ := trodVars_none hV
  simp only [List.append_nil] at hW' hsz'
  have hreach : ∀ n ∈ d3.weights Tryz.prog 38, n ≤ reachBytes := fun n hn => of_decide_eq_true (List.all_eq_true.1 hsz' n (DataW.weights_mem_each (j := 3) rfl rfl n hn))
  obtain ⟨ra, rfl, ha⟩ := P.open_ref (hval 0 37 v0 rfl rfl) h0
  obtain ⟨rb, rfl, hb⟩ := P.open_ref (hval 1 37 v1 rfl rfl) h1
  obtain ⟨rc, rfl, hc⟩ := P.open_ref (hval 2 37 v2 rfl rfl) h2
  obtain ⟨pa, es, c, rfl, hes, _⟩ := P.open_entries (hval 3 38 v3 rfl rfl) h3 hreach
  clear hA0 hval0 hsz hsz' hreach
  refine (P.order_any W ra rb rc pa es c ha hb hc hes).mono fun e W' ⟨he, hbl⟩ => ?_
  subst he
  have hlt := hW'.lt
  refine ⟨_, rfl, [d0, d1, d2, d3], [], p0 ++ (p1 ++ (p2 ++ p3)), [], p0 ++ (p1 ++ (p2 ++ p3)), [], hW', ?_, ?_, rfl, hbl.frame _, fun h => by cases h⟩
  · exact trodAll_cons_mk (shut_bool Tryz.underlying4 _) trodAll_mk0
  · refine trodAll_cons_mk (P.args_stay (by kernel_rfl) (of_decide_eq_true (by kernel_rfl)) h0 hbl ?_) (trodAll_cons_mk (P.args_stay (by kernel_rfl) (of_decide_eq_true (by kernel_rfl)) h1 hbl ?_) (trodAll_cons_mk (P.args_stay (by kernel_rfl) (of_decide_eq_true (by kernel_rfl)) h2 hbl ?_) (trodAll_mk1 (P.args_stay (by kernel_rfl) (of_decide_eq_true (by kernel_rfl)) h3 hbl ?_))))
    all_goals exact fun x hx => hlt x (by simp [hx])

theorem over : Rows.packOrderRow.holds Tryz.pinned (OpenSpec.ofChange Rows.packOrderSpec) :=
  OpenClaim.holds_of_wide 8 Tryz.f8 rfl rfl rfl rfl rfl rfl rfl ⟨rfl, rfl, rfl, rfl, rfl⟩ rfl rfl rfl rfl rfl (by kernel_rfl) Tryz.func8 (by kernel_rfl)
    (of_decide_eq_true (by kernel_rfl)) (by unfold Func.isWrapper; first | (rw [if_pos (by decide +kernel)]; kernel_rfl) | (rw [if_neg (by decide +kernel)]; exact ⟨rfl, rfl⟩))
    (fun os started H enc _ => lifted os started H enc)
end Go.Proofs.YtilbbemdinpjcaaGreat.packOrder
namespace Go.Proofs.YtilbbemdinpjcaaGreat
theorem packOrder_said : Rows.PackOrderSaid := packOrder.over
end Go.Proofs.YtilbbemdinpjcaaGreat
