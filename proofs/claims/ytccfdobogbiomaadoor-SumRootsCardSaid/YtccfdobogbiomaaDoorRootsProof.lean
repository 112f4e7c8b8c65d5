/-
  SumRoots holds for any hashes: it returns true, and its argument reads as it did. Condition: the two listed tables hold what the program's text lays (the card ties them).
-/
import Derived.Test.YtccfdobogbiomaaDoorRoots
import Derived.Test.YtccfdobogbiomaaDoorData
namespace Go.Proofs.YtccfdobogbiomaaDoor
open Go.ChangeShapes Go.WideShapes Go.ChangeAt Go.RowKit Go.Deep Sha

theorem slice_neat {H : Type} {enc : TypeId × Value → H} {W : World} {lv : Option Addr} {m lc : Nat} {d : DataW H} {p : List MemPlace} (h : DataW.Trod enc Tryd.prog W 0 (fun _ => true) true 32 (.slice lv m lc) d p) : lv = none → m = 0 ∧ lc = 0 := by
  obtain ⟨fuel, hf⟩ := h
  rcases open_slice Tryd.underlying32 hf with ⟨hcs, _⟩ | ⟨a, len', cap', _, _, _, _, hcs, _⟩
  · simp only [Value.cells, List.cons.injEq, Value.slice.injEq, and_true] at hcs
    exact fun _ => hcs.2
  · simp only [Value.cells, List.cons.injEq, Value.slice.injEq, and_true] at hcs
    intro e
    rw [e] at hcs
    cases hcs.1
theorem roots_contract (H : Type) (enc : TypeId × Value → H) (W : World) (base : Nat) (args : Array Value) (ds gs : List (DataW H)) (before : List MemPlace)
    (hval : ∀ (j : Nat) t v, Tryd.f4.params[j]? = some t → args[j]? = some v → Value.okWide Tryd.prog W .any base t v)
    (hW : DataW.Whole enc Tryd.prog Tryd.f4.params.toList Rows.sumRootsSpec.vars false W args.toList ds gs before)
    (hL : laidMetH Tryd.prog Rows.sumRootsRow.laid W) (hsh : W.ShapedOpen Tryd.prog) :
    Calls Tryd.prog 4 args W fun e W' => ∃ v, e = .returned v ∧ Rows.sumRootsSpec.post enc Tryd.prog Tryd.f4 false true false false W args v W' := by
  have hW' := hW
  obtain ⟨p, q, hA0, hV, rfl, hfz, hnd⟩ := hW
  have hA : DataW.TrodAll enc Tryd.prog W 0 (fun _ => true) true Tryd.f4.params.toList args.toList ds p := hA0
  rw [Tryd.params4] at hA hval
  obtain ⟨v0, d0, rfl, rfl, h0⟩ := trodAll_one hA
  obtain ⟨rfl, rfl⟩ := trodVars_none hV
  simp only [List.append_nil] at hW'
  obtain ⟨hst, hcu⟩ := tables hL hsh
  obtain ⟨lv, m, lc, F, rfl, hF, hlc1, hlc2, hsrc⟩ := open_hashes (hval 0 32 v0 rfl rfl) h0
  refine (roots_any m F W lv lc hF hlc1 hlc2 (slice_neat h0) hsrc hst hcu).mono fun e W' ⟨he, hb⟩ => ?_
  subst he
  have hlt := hW'.lt
  refine ⟨_, rfl, [d0], [], p, [], p, [], hW', ?_, ?_, rfl, hb.frame _, fun h => by cases h⟩
  · exact trodAll_cons_mk (shut_bool Tryd.underlying4 _) trodAll_mk0
  · exact trodAll_mk1 (args_stay (by kernel_rfl) (of_decide_eq_true (by kernel_rfl)) h0 hb (fun x hx => hlt x (by simp [hx])))

def noHashes : Array Value := #[.slice none 0 0]
theorem roots_laid (os : Os) : laidMet Tryd.prog Rows.sumRootsRow.laid ((laidWorld os).forCall (fun _ _ => 0) ⟨#[], noHashes, []⟩).memory :=
  laidMet_of_run' 8 (by kernel_rfl) (by kernel_rfl)
theorem roots_reads (os : Os) {H : Type} (enc : TypeId × Value → H) : ∃ places, DataW.whole enc Tryd.prog ((laidWorld os).forCall (fun _ _ => 0) ⟨#[], noHashes, []⟩).memory Tryd.f4.params.toList Rows.sumRootsSpec.vars false noHashes.toList 8 = some ([.nil], [], places) :=
  ⟨[], by kernel_rfl⟩
set_option maxRecDepth 100000 in
theorem roots_lifted (os : Os) (started : os.Started) (H : Type) (enc : TypeId × Value → H) (F : Stop.Interp) :
    ReturnsInHanded {} Tryd.checked os 4 .any ((OpenSpec.ofChange Rows.sumRootsSpec).preRow enc Tryd.prog Tryd.f4 Rows.sumRootsRow.domain false Rows.sumRootsRow.laid) (((OpenSpec.ofChange Rows.sumRootsSpec).at F).post enc Tryd.prog Tryd.f4 false true false false) := by
  obtain ⟨places, hx⟩ := roots_reads os enc
  refine returnsInHanded_of_row (C := Tryd.checked) (s := OpenSpec.ofChange Rows.sumRootsSpec) own started (by kernel_rfl) Tryd.func4
    (witness_row_at (enc := enc) (C := Tryd.checked) false (laidWorld os) noHashes rfl (by kernel_rfl) (by kernel_rfl) (by kernel_rfl)
      (OpenSpec.preRow_of_cond 8 hx (by kernel_rfl) (fun k hk => by cases hk) (by kernel_rfl) (roots_laid os))) ?_
  intro W base args ds gs before hval hW _ _ _ hL hsh _
  exact roots_contract H enc W base args ds gs before hval hW hL hsh
theorem roots_said : Rows.SumRootsSaid :=
  OpenClaim.holds_of_cond 4 Tryd.f4 rfl rfl rfl rfl rfl rfl rfl ⟨rfl, rfl, rfl, rfl, rfl⟩ rfl rfl rfl rfl rfl (by kernel_rfl) Tryd.func4 (by kernel_rfl)
    (of_decide_eq_true (by kernel_rfl)) (by unfold Func.isWrapper; first | (rw [if_pos (by decide +kernel)]; kernel_rfl) | (rw [if_neg (by decide +kernel)]; exact ⟨rfl, rfl⟩))
    (fun os started H enc _ F => by rw [OpenClaim.pre_eq_preRow]; exact roots_lifted os started H enc F)
theorem roots_plain (f : FuncId) (fn : Func) (hf : Tryd.pinned.checked.prog.funcNamed "moidore/moidorelaw01.SumRoots" = some f) (hfn : Tryd.pinned.checked.prog.funcs[f]? = some fn) :
    false = Tryd.pinned.checked.prog.looks [] ∧ ∀ (j : Nat) t, fn.params[j]? = some t → Tryd.pinned.checked.prog.wantsStandIn t = false := by
  obtain rfl : f = 4 := Option.some.inj ((show Tryd.prog.funcNamed "moidore/moidorelaw01.SumRoots" = some 4 by kernel_rfl).symm.trans hf) |>.symm
  obtain rfl : fn = Tryd.f4 := (Option.some.inj (Tryd.func4.symm.trans hfn)).symm
  refine ⟨by kernel_rfl, fun j t ht => ?_⟩
  rw [Tryd.params4] at ht
  obtain rfl : t = 32 := by simpa using Array.mem_of_getElem? ht
  exact (show Tryd.prog.wantsStandIn 32 = false by kernel_rfl)
theorem roots_card : Rows.SumRootsCardSaid :=
  Claim7.holds_tied_plain_at .later [] _ _ _ _ roots_said (fun _ h => by cases h) (by kernel_rfl) (fun _ h => by cases h) sumRoots_row_tie rfl ⟨rfl, rfl⟩ (by kernel_rfl) rfl roots_plain (by kernel_rfl)
end Go.Proofs.YtccfdobogbiomaaDoor
