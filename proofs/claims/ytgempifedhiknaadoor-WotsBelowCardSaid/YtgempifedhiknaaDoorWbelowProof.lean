/-
  WotsBelow holds for any seed bytes and any two hashes: it returns true, and its arguments read as they did. Condition: the two listed tables hold what the program's text lays (the card ties them).
-/
import Derived.Test.YtgempifedhiknaaDoorWbelow
import Derived.Test.YtgempifedhiknaaDoorWdata
namespace Go.Proofs.YtgempifedhiknaaDoor
open Go.ChangeShapes Go.WideShapes Go.ChangeAt Go.RowKit Go.Deep Sha

theorem below_contract (H : Type) (enc : TypeId × Value → H) (W : World) (base : Nat) (args : Array Value) (ds gs : List (DataW H)) (before : List MemPlace)
    (hval : ∀ (j : Nat) t v, Tryd.f6.params[j]? = some t → args[j]? = some v → Value.okWide Tryd.prog W .any base t v)
    (hW : DataW.Whole enc Tryd.prog Tryd.f6.params.toList Rows.wotsBelowSpec.vars false W args.toList ds gs before)
    (hsz : (DataW.weightsEach Tryd.prog (Tryd.f6.params.toList ++ (OpenSpec.ofChange Rows.wotsBelowSpec).bare.plain.varTypes Tryd.prog) (ds ++ gs)).all (· ≤ reachBytes) = true)
    (hL : laidMetH Tryd.prog Rows.wotsBelowRow.laid W) (hsh : W.ShapedOpen Tryd.prog) :
    Calls Tryd.prog 6 args W fun e W' => ∃ v, e = .returned v ∧ Rows.wotsBelowSpec.post enc Tryd.prog Tryd.f6 false true false false W args v W' := by
  have hW' := hW
  obtain ⟨p, q, hA0, hV, rfl, hfz, hnd⟩ := hW
  have hA : DataW.TrodAll enc Tryd.prog W 0 (fun _ => true) true Tryd.f6.params.toList args.toList ds p := hA0
  rw [Tryd.params6] at hA hval hsz
  obtain ⟨v0, v1, v2, d0, d1, d2, p0, p1, p2, rfl, rfl, rfl, h0, h1, h2⟩ := trodAll_three hA
  obtain ⟨rfl, rfl⟩ := trodVars_none hV
  simp only [List.append_nil] at hW' hsz
  obtain ⟨hst, hcu⟩ := tables hL hsh
  obtain ⟨pa, xs, pc, rfl, hgood, hlen⟩ := open_bytes (hval 0 33 v0 rfl rfl) h0
  obtain ⟨m, rfl, hm⟩ := open_hash (hval 1 26 v1 rfl rfl) h1
  obtain ⟨m2, rfl, hm2⟩ := open_hash (hval 2 26 v2 rfl rfl) h2
  have h47 : xs.length ≤ 140737488355328 := by
    rcases hlen with h | ⟨elems, spare, rfl, he⟩
    · omega
    · have := sized_slice hsz (j := 0) rfl rfl Tryd.underlying33
      have e1 : Tryd.prog.bytesOf 5 = 1 := by kernel_rfl
      rw [e1] at this
      have hr : reachBytes = 140737488351232 := rfl
      omega
  have walk := belowlaw_any W pa xs pc m m2 hm hm2 (by simp only [maxLen]; omega) hgood hst hcu
  refine walk.mono fun e W' ⟨he, hb⟩ => ?_
  subst he
  have hlt := hW'.lt
  refine ⟨_, rfl, [d0, d1, d2], [], p0 ++ p1 ++ p2, [], p0 ++ p1 ++ p2, [], hW', ?_, ?_, rfl, hb.frame _, fun h => by cases h⟩
  · exact trodAll_cons_mk (shut_bool Tryd.underlying4 _) trodAll_mk0
  · rw [List.append_assoc]
    refine trodAll_mk3 (args_stay (by kernel_rfl) (of_decide_eq_true (by kernel_rfl)) h0 hb ?_) (args_stay (by kernel_rfl) (of_decide_eq_true (by kernel_rfl)) h1 hb ?_) (args_stay (by kernel_rfl) (of_decide_eq_true (by kernel_rfl)) h2 hb ?_)
    all_goals exact fun x hx => hlt x (by simp [hx])

def zeroHash : Value := .agg (Array.replicate 32 (.int .u8 0))
def noArgs : Array Value := #[.slice none 0 0, zeroHash, zeroHash]
theorem below_laid (os : Os) : laidMet Tryd.prog Rows.wotsBelowRow.laid ((laidWorld os).forCall (fun _ _ => 0) ⟨#[], noArgs, []⟩).memory :=
  laidMet_of_run' 8 (by kernel_rfl) (by kernel_rfl)
theorem below_reads (os : Os) {H : Type} (enc : TypeId × Value → H) : ∃ places, DataW.whole enc Tryd.prog ((laidWorld os).forCall (fun _ _ => 0) ⟨#[], noArgs, []⟩).memory Tryd.f6.params.toList Rows.wotsBelowSpec.vars false noArgs.toList 8 = some ([.nil, .agg (List.replicate 32 (.lit (.int .u8 0))), .agg (List.replicate 32 (.lit (.int .u8 0)))], [], places) :=
  ⟨[], by kernel_rfl⟩
set_option maxRecDepth 100000 in
theorem below_lifted (os : Os) (started : os.Started) (H : Type) (enc : TypeId × Value → H) (F : Stop.Interp) :
    ReturnsInHanded {} Tryd.checked os 6 .any ((OpenSpec.ofChange Rows.wotsBelowSpec).preRow enc Tryd.prog Tryd.f6 Rows.wotsBelowRow.domain false Rows.wotsBelowRow.laid) (((OpenSpec.ofChange Rows.wotsBelowSpec).at F).post enc Tryd.prog Tryd.f6 false true false false) := by
  obtain ⟨places, hx⟩ := below_reads os enc
  refine returnsInHanded_of_row (C := Tryd.checked) (s := OpenSpec.ofChange Rows.wotsBelowSpec) own started (by kernel_rfl) Tryd.func6
    (witness_row_at (enc := enc) (C := Tryd.checked) false (laidWorld os) noArgs rfl (by kernel_rfl) (by kernel_rfl) (by kernel_rfl)
      (OpenSpec.preRow_of_cond 8 hx (by kernel_rfl) (fun k hk => by cases hk) (by kernel_rfl) (below_laid os))) ?_
  intro W base args ds gs before hval hW _ _ hsz hL hsh _
  exact below_contract H enc W base args ds gs before hval hW hsz hL hsh
theorem below_said : Rows.WotsBelowSaid :=
  OpenClaim.holds_of_cond 6 Tryd.f6 rfl rfl rfl rfl rfl rfl rfl ⟨rfl, rfl, rfl, rfl, rfl⟩ rfl rfl rfl rfl rfl (by kernel_rfl) Tryd.func6 (by kernel_rfl)
    (of_decide_eq_true (by kernel_rfl)) (by unfold Func.isWrapper; first | (rw [if_pos (by decide +kernel)]; kernel_rfl) | (rw [if_neg (by decide +kernel)]; exact ⟨rfl, rfl⟩))
    (fun os started H enc _ F => by rw [OpenClaim.pre_eq_preRow]; exact below_lifted os started H enc F)
theorem below_plain (f : FuncId) (fn : Func) (hf : Tryd.pinned.checked.prog.funcNamed "moidore/moidorelaw06.WotsBelow" = some f) (hfn : Tryd.pinned.checked.prog.funcs[f]? = some fn) :
    false = Tryd.pinned.checked.prog.looks [] ∧ ∀ (j : Nat) t, fn.params[j]? = some t → Tryd.pinned.checked.prog.wantsStandIn t = false := by
  obtain rfl : f = 6 := Option.some.inj ((show Tryd.prog.funcNamed "moidore/moidorelaw06.WotsBelow" = some 6 by kernel_rfl).symm.trans hf) |>.symm
  obtain rfl : fn = Tryd.f6 := (Option.some.inj (Tryd.func6.symm.trans hfn)).symm
  refine ⟨by kernel_rfl, fun j t ht => ?_⟩
  rw [Tryd.params6] at ht
  have h2 : t = 33 ∨ t = 26 ∨ t = 26 := by simpa using Array.mem_of_getElem? ht
  rcases h2 with rfl | rfl | rfl
  · exact (show Tryd.prog.wantsStandIn 33 = false by kernel_rfl)
  · exact (show Tryd.prog.wantsStandIn 26 = false by kernel_rfl)
  · exact (show Tryd.prog.wantsStandIn 26 = false by kernel_rfl)
theorem below_card : Rows.WotsBelowCardSaid :=
  Claim7.holds_tied_plain_at .later [] _ _ _ _ below_said (fun _ h => by cases h) (by kernel_rfl) (fun _ h => by cases h) wotsBelow_row_tie rfl ⟨rfl, rfl⟩ (by kernel_rfl) rfl below_plain (by kernel_rfl)
end Go.Proofs.YtgempifedhiknaaDoor
