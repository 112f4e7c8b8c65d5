/-
  WotsDigits holds: it returns true. Condition: the two listed tables hold what the program's text lays (the card ties them).
-/
import Derived.Test.YtgempifedhiknaaDoorWdigits
import Derived.Test.YtgempifedhiknaaDoorWdata
namespace Go.Proofs.YtgempifedhiknaaDoor
open Go.ChangeShapes Go.WideShapes Go.ChangeAt Go.RowKit Go.Deep Sha

theorem wdig_contract (H : Type) (enc : TypeId × Value → H) (W : World) (args : Array Value) (ds gs : List (DataW H)) (before : List MemPlace)
    (hW : DataW.Whole enc Tryd.prog Tryd.f4.params.toList Rows.wotsDigitsSpec.vars false W args.toList ds gs before)
    (hL : laidMetH Tryd.prog Rows.wotsDigitsRow.laid W) (hsh : W.ShapedOpen Tryd.prog) :
    Calls Tryd.prog 4 args W fun e W' => ∃ v, e = .returned v ∧ Rows.wotsDigitsSpec.post enc Tryd.prog Tryd.f4 false true false false W args v W' := by
  have hW' := hW
  obtain ⟨p, q, hA0, hV, rfl, hfz, hnd⟩ := hW
  have hA : DataW.TrodAll enc Tryd.prog W 0 (fun _ => true) true Tryd.f4.params.toList args.toList ds p := hA0
  rw [Tryd.params4] at hA
  obtain ⟨rfl, rfl, rfl⟩ := trodAll_none hA
  obtain ⟨rfl, rfl⟩ := trodVars_none hV
  simp only [List.append_nil] at hW'
  obtain ⟨hst, hcu⟩ := tables hL hsh
  refine (digits4_any W hst hcu).mono fun e W' ⟨he, hb⟩ => ?_
  subst he
  refine ⟨_, rfl, [], [], [], [], [], [], hW', ?_, ?_, rfl, hb.frame _, fun h => by cases h⟩
  · exact trodAll_cons_mk (shut_bool Tryd.underlying4 _) trodAll_mk0
  · exact trodAll_mk0

def nothing : Array Value := #[]
theorem wdig_laid (os : Os) : laidMet Tryd.prog Rows.wotsDigitsRow.laid ((laidWorld os).forCall (fun _ _ => 0) ⟨#[], nothing, []⟩).memory :=
  laidMet_of_run' 8 (by kernel_rfl) (by kernel_rfl)
theorem wdig_reads (os : Os) {H : Type} (enc : TypeId × Value → H) : ∃ places, DataW.whole enc Tryd.prog ((laidWorld os).forCall (fun _ _ => 0) ⟨#[], nothing, []⟩).memory Tryd.f4.params.toList Rows.wotsDigitsSpec.vars false nothing.toList 8 = some ([], [], places) :=
  ⟨[], by kernel_rfl⟩
set_option maxRecDepth 100000 in
theorem wdig_lifted (os : Os) (started : os.Started) (H : Type) (enc : TypeId × Value → H) (F : Stop.Interp) :
    ReturnsInHanded {} Tryd.checked os 4 .any ((OpenSpec.ofChange Rows.wotsDigitsSpec).preRow enc Tryd.prog Tryd.f4 Rows.wotsDigitsRow.domain false Rows.wotsDigitsRow.laid) (((OpenSpec.ofChange Rows.wotsDigitsSpec).at F).post enc Tryd.prog Tryd.f4 false true false false) := by
  obtain ⟨places, hx⟩ := wdig_reads os enc
  refine returnsInHanded_of_row (C := Tryd.checked) (s := OpenSpec.ofChange Rows.wotsDigitsSpec) own started (by kernel_rfl) Tryd.func4
    (witness_row_at (enc := enc) (C := Tryd.checked) false (laidWorld os) nothing rfl (by kernel_rfl) (by kernel_rfl) (by kernel_rfl)
      (OpenSpec.preRow_of_cond 8 hx (by kernel_rfl) (fun k hk => by cases hk) (by kernel_rfl) (wdig_laid os))) ?_
  intro W base args ds gs before hval hW _ _ hsz hL hsh _
  exact wdig_contract H enc W args ds gs before hW hL hsh
theorem wdig_said : Rows.WotsDigitsSaid :=
  OpenClaim.holds_of_cond 4 Tryd.f4 rfl rfl rfl rfl rfl rfl rfl ⟨rfl, rfl, rfl, rfl, rfl⟩ rfl rfl rfl rfl rfl (by kernel_rfl) Tryd.func4 (by kernel_rfl)
    (of_decide_eq_true (by kernel_rfl)) (by unfold Func.isWrapper; first | (rw [if_pos (by decide +kernel)]; kernel_rfl) | (rw [if_neg (by decide +kernel)]; exact ⟨rfl, rfl⟩))
    (fun os started H enc _ F => by rw [OpenClaim.pre_eq_preRow]; exact wdig_lifted os started H enc F)
theorem wdig_plain (f : FuncId) (fn : Func) (hf : Tryd.pinned.checked.prog.funcNamed "moidore/moidorelaw06.WotsDigits" = some f) (hfn : Tryd.pinned.checked.prog.funcs[f]? = some fn) :
    false = Tryd.pinned.checked.prog.looks [] ∧ ∀ (j : Nat) t, fn.params[j]? = some t → Tryd.pinned.checked.prog.wantsStandIn t = false := by
  obtain rfl : f = 4 := Option.some.inj ((show Tryd.prog.funcNamed "moidore/moidorelaw06.WotsDigits" = some 4 by kernel_rfl).symm.trans hf) |>.symm
  obtain rfl : fn = Tryd.f4 := (Option.some.inj (Tryd.func4.symm.trans hfn)).symm
  refine ⟨by kernel_rfl, fun j t ht => ?_⟩
  rw [Tryd.params4] at ht
  simp at ht
theorem wdig_card : Rows.WotsDigitsCardSaid :=
  Claim7.holds_tied_plain_at .later [] _ _ _ _ wdig_said (fun _ h => by cases h) (by kernel_rfl) (fun _ h => by cases h) wotsDigits_row_tie rfl ⟨rfl, rfl⟩ (by kernel_rfl) rfl wdig_plain (by kernel_rfl)
end Go.Proofs.YtgempifedhiknaaDoor
