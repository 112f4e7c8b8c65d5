/-
  WotsOwns holds for any signature and any hash: it returns true, and its arguments read as they did. Condition: the two listed tables hold what the program's text lays (the card ties them).
-/
import Derived.Test.YtgempifedhiknaaDoorWowns
import Derived.Test.YtgempifedhiknaaDoorWsigd
namespace Go.Proofs.YtgempifedhiknaaDoor
open Go.ChangeShapes Go.WideShapes Go.ChangeAt Go.RowKit Go.Deep Sha

theorem owns_contract (H : Type) (enc : TypeId × Value → H) (W : World) (base : Nat) (args : Array Value) (ds gs : List (DataW H)) (before : List MemPlace)
    (hval : ∀ (j : Nat) t v, Tryd.f3.params[j]? = some t → args[j]? = some v → Value.okWide Tryd.prog W .any base t v)
    (hW : DataW.Whole enc Tryd.prog Tryd.f3.params.toList Rows.wotsOwnsSpec.vars false W args.toList ds gs before)
    (hL : laidMetH Tryd.prog Rows.wotsOwnsRow.laid W) (hsh : W.ShapedOpen Tryd.prog) :
    Calls Tryd.prog 3 args W fun e W' => ∃ v, e = .returned v ∧ Rows.wotsOwnsSpec.post enc Tryd.prog Tryd.f3 false true false false W args v W' := by
  have hW' := hW
  obtain ⟨p, q, hA0, hV, rfl, hfz, hnd⟩ := hW
  have hA : DataW.TrodAll enc Tryd.prog W 0 (fun _ => true) true Tryd.f3.params.toList args.toList ds p := hA0
  rw [Tryd.params3] at hA hval
  obtain ⟨v0, v1, d0, d1, p0, p1, rfl, rfl, rfl, h0, h1⟩ := trodAll_two hA
  obtain ⟨rfl, rfl⟩ := trodVars_none hV
  simp only [List.append_nil] at hW'
  obtain ⟨hst, hcu⟩ := tables hL hsh
  obtain ⟨lv, m, lc, F, rfl, hF, hl1, hl2, hneat, hsrc⟩ := open_sig (hval 0 24 v0 rfl rfl) h0
  obtain ⟨msg, rfl, hm⟩ := open_hash (hval 1 26 v1 rfl rfl) h1
  have walk := owns_any m F msg W lv lc hF (Nat.le_trans hl1 hl2) hneat hsrc hm hst hcu
  refine walk.mono fun e W' ⟨he, hb⟩ => ?_
  subst he
  have hlt := hW'.lt
  refine ⟨_, rfl, [d0, d1], [], p0 ++ p1, [], p0 ++ p1, [], hW', ?_, ?_, rfl, hb.frame _, fun h => by cases h⟩
  · exact trodAll_cons_mk (shut_bool Tryd.underlying4 _) trodAll_mk0
  · refine trodAll_mk2 (args_stay (by kernel_rfl) (of_decide_eq_true (by kernel_rfl)) h0 hb ?_) (args_stay (by kernel_rfl) (of_decide_eq_true (by kernel_rfl)) h1 hb ?_)
    all_goals exact fun x hx => hlt x (by simp [hx])

def zeroHash : Value := .agg (Array.replicate 32 (.int .u8 0))
def noArgs : Array Value := #[.agg #[.slice none 0 0], zeroHash]
theorem owns_laid (os : Os) : laidMet Tryd.prog Rows.wotsOwnsRow.laid ((laidWorld os).forCall (fun _ _ => 0) ⟨#[], noArgs, []⟩).memory :=
  laidMet_of_run' 8 (by kernel_rfl) (by kernel_rfl)
theorem owns_reads (os : Os) {H : Type} (enc : TypeId × Value → H) : ∃ places, DataW.whole enc Tryd.prog ((laidWorld os).forCall (fun _ _ => 0) ⟨#[], noArgs, []⟩).memory Tryd.f3.params.toList Rows.wotsOwnsSpec.vars false noArgs.toList 8 = some ([.agg [.nil], .agg (List.replicate 32 (.lit (.int .u8 0)))], [], places) :=
  ⟨[], by kernel_rfl⟩
set_option maxRecDepth 100000 in
theorem owns_lifted (os : Os) (started : os.Started) (H : Type) (enc : TypeId × Value → H) (F : Stop.Interp) :
    ReturnsInHanded {} Tryd.checked os 3 .any ((OpenSpec.ofChange Rows.wotsOwnsSpec).preRow enc Tryd.prog Tryd.f3 Rows.wotsOwnsRow.domain false Rows.wotsOwnsRow.laid) (((OpenSpec.ofChange Rows.wotsOwnsSpec).at F).post enc Tryd.prog Tryd.f3 false true false false) := by
  obtain ⟨places, hx⟩ := owns_reads os enc
  refine returnsInHanded_of_row (C := Tryd.checked) (s := OpenSpec.ofChange Rows.wotsOwnsSpec) own started (by kernel_rfl) Tryd.func3
    (witness_row_at (enc := enc) (C := Tryd.checked) false (laidWorld os) noArgs rfl (by kernel_rfl) (by kernel_rfl) (by kernel_rfl)
      (OpenSpec.preRow_of_cond 8 hx (by kernel_rfl) (fun k hk => by cases hk) (by kernel_rfl) (owns_laid os))) ?_
  intro W base args ds gs before hval hW _ _ _ hL hsh _
  exact owns_contract H enc W base args ds gs before hval hW hL hsh
theorem owns_said : Rows.WotsOwnsSaid :=
  OpenClaim.holds_of_cond 3 Tryd.f3 rfl rfl rfl rfl rfl rfl rfl ⟨rfl, rfl, rfl, rfl, rfl⟩ rfl rfl rfl rfl rfl (by kernel_rfl) Tryd.func3 (by kernel_rfl)
    (of_decide_eq_true (by kernel_rfl)) (by unfold Func.isWrapper; first | (rw [if_pos (by decide +kernel)]; kernel_rfl) | (rw [if_neg (by decide +kernel)]; exact ⟨rfl, rfl⟩))
    (fun os started H enc _ F => by rw [OpenClaim.pre_eq_preRow]; exact owns_lifted os started H enc F)
theorem owns_plain (f : FuncId) (fn : Func) (hf : Tryd.pinned.checked.prog.funcNamed "moidore/moidorelaw06.WotsOwns" = some f) (hfn : Tryd.pinned.checked.prog.funcs[f]? = some fn) :
    false = Tryd.pinned.checked.prog.looks [] ∧ ∀ (j : Nat) t, fn.params[j]? = some t → Tryd.pinned.checked.prog.wantsStandIn t = false := by
  obtain rfl : f = 3 := Option.some.inj ((show Tryd.prog.funcNamed "moidore/moidorelaw06.WotsOwns" = some 3 by kernel_rfl).symm.trans hf) |>.symm
  obtain rfl : fn = Tryd.f3 := (Option.some.inj (Tryd.func3.symm.trans hfn)).symm
  refine ⟨by kernel_rfl, fun j t ht => ?_⟩
  rw [Tryd.params3] at ht
  have h2 : t = 24 ∨ t = 26 := by simpa using Array.mem_of_getElem? ht
  rcases h2 with rfl | rfl
  · exact (show Tryd.prog.wantsStandIn 24 = false by kernel_rfl)
  · exact (show Tryd.prog.wantsStandIn 26 = false by kernel_rfl)
theorem owns_card : Rows.WotsOwnsCardSaid :=
  Claim7.holds_tied_plain_at .later [] _ _ _ _ owns_said (fun _ h => by cases h) (by kernel_rfl) (fun _ h => by cases h) wotsOwns_row_tie rfl ⟨rfl, rfl⟩ (by kernel_rfl) rfl owns_plain (by kernel_rfl)
end Go.Proofs.YtgempifedhiknaaDoor
