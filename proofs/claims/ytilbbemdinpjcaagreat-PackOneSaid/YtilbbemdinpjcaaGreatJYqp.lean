/-
  PackOne returns true for any bytes and any sort, and its arguments read as they did. No condition.
-/
import Derived.Test.YtilbbemdinpjcaaGreatJVo
import Derived.Test.YtilbbemdinpjcaaGreatJYq
import Derived.Test.YtilbbemdinpjcaaGreatJQi
namespace Go.Proofs.YtilbbemdinpjcaaGreat.P
open Go.ChangeShapes Go.WideShapes Go.ChangeAt Go.RowKit Go.Deep
theorem cellsU8 : Tryz.prog.cellsOf 5 = 1 := by kernel_rfl
theorem bytesU8 : Tryz.prog.bytesOf 5 = 1 := by kernel_rfl
set_option maxRecDepth 100000 in
theorem open_bs {H : Type} {enc : TypeId × Value → H} {V : World} {b0 : Nat} {v : Value} {d : DataW H} {p : List MemPlace} (hv : Value.okWide Tryz.prog V .any b0 54 v) (h : DataW.Trod enc Tryz.prog V 0 (fun _ => true) true 54 v d p) (hreach : ∀ n ∈ d.weights Tryz.prog 54, n ≤ reachBytes) :
  ∃ xs : List UInt8, W.Bs V v xs ∧ xs.length ≤ 140737488355328 := by
 obtain ⟨a0, len, cap, rfl⟩ := okWide_slice Tryz.underlying54 hv
 obtain ⟨fuel, hf⟩ := h
 rcases open_ints Tryz.underlying54 Tryz.underlying5 cellsU8 hf with ⟨hcs, _⟩ | ⟨a, len', cap', zs, hcs, _, hl, hm, hz, hx, hcell, hwz⟩
 ·
  simp only [Value.cells, List.cons.injEq, Value.slice.injEq, and_true] at hcs
  obtain ⟨rfl, rfl, rfl⟩ := hcs
  exact ⟨[], .inl ⟨rfl, rfl⟩, Nat.zero_le _⟩
 ·
  simp only [Value.cells, List.cons.injEq, Value.slice.injEq, and_true] at hcs
  obtain ⟨rfl, rfl, rfl⟩ := hcs
  simp only [if_true] at hz
  have hbyte : ∀ j, j < len → ∃ b : UInt8, zs.getD j 0 = (b.toNat : Int) := fun j hj => byte_of (hwz _ (by
   rw [List.getD_eq_getElem?_getD, List.getElem?_eq_getElem (by omega)]
   exact List.getElem_mem _))
  obtain ⟨xs, hxl, hxs⟩ := list_of (0 : UInt8) (fun j b => zs.getD j 0 = (b.toNat : Int)) len hbyte
  subst hxl
  have hr : reachBytes = 140737488351232 := rfl
  have hd : d = .slice (lits .u8 (zs.take xs.length)) (lits .u8 (zs.drop xs.length)) := (Prod.mk.inj hx).1
  have hw := hreach (((lits .u8 (zs.take xs.length) : List (DataW H)).length + (lits .u8 (zs.drop xs.length) : List (DataW H)).length) * 1) (by
   rw [hd, DataW.weights, Tryz.underlying54]
   simp only [bytesU8]
   exact List.mem_cons_self)
  have hsrc : W.SrcA V a xs := fun j u hu => by
   have hj := (List.getElem?_eq_some_iff.1 hu).1
   rw [Array.length_toList, W.B8_size] at hj
   rw [Array.getElem?_toList, W.B8_get xs j hj, ← hxs j hj] at hu
   rw [← hu]
   exact hcell j (by omega)
  refine ⟨xs, .inr ⟨a, cap, rfl, hl, hm, fun hne => ?_, hsrc⟩, ?_⟩
  ·
   have hp : 0 < xs.length := List.length_pos_iff.2 hne
   have := World.cell?_spot (hsrc 0 _ (List.getElem?_eq_getElem (by rw [Array.length_toList, W.B8_size]; exact hp)))
   simpa [Addr.add] using this
  ·
   simp [lits] at hw
   omega
end Go.Proofs.YtilbbemdinpjcaaGreat.P
namespace Go.Proofs.YtilbbemdinpjcaaGreat.packOne
open Go.ChangeShapes Go.WideShapes Go.ChangeAt Go.RowKit
theorem own : ownKnob Tryz.prog.godebug = none := by kernel_rfl
set_option maxRecDepth 100000 in
theorem lifted (os : Os) (started : os.Started) (H : Type) (enc : TypeId × Value → H) :
  ReturnsInHanded {} Tryz.checked os 7 .any (Rows.packOneSpec.pre6 enc Tryz.prog Tryz.f7 Rows.packOneRow.domain false) (Rows.packOneSpec.post enc Tryz.prog Tryz.f7 false true false false) := by
 refine returnsInHanded_of_change_sized (C := Tryz.checked) own started (by kernel_rfl) Tryz.func7
  (ChangeSpec.witness6 (enc := enc) (C := Tryz.checked) false ⟨#[], #[.slice none 0 0, .int .i64 0], []⟩ 8 (by kernel_rfl) (by kernel_rfl) (by kernel_rfl) (by kernel_rfl)) ?_
 intro W base args ds gs before hval0 hW _ hsz _
 have hval : ∀ (j : Nat) t v, Tryz.f7.params[j]? = some t → args[j]? = some v → Value.okWide Tryz.prog W .any base t v := hval0
 have hW' := hW
 obtain ⟨p, q, hA0, hV, rfl, hfz, hnd⟩ := hW
 have hA : DataW.TrodAll enc Tryz.prog W 0 (fun _ => true) true Tryz.f7.params.toList args.toList ds p := hA0
 have hsz' : (DataW.weightsEach Tryz.prog (Tryz.f7.params.toList ++ Rows.packOneSpec.plain.varTypes Tryz.prog) (ds ++ gs)).all (· ≤ reachBytes) = true := hsz
 rw [Tryz.params7] at hA hval hsz'
 obtain ⟨v0, v1, d0, d1, p0, p1, rfl, rfl, rfl, h0, h1⟩ := trodAll_two hA
 obtain ⟨rfl, rfl⟩ := trodVars_none hV
 simp only [List.append_nil] at hW' hsz'
 have hreach0 : ∀ n ∈ d0.weights Tryz.prog 54, n ≤ reachBytes := fun n hn => of_decide_eq_true (List.all_eq_true.1 hsz' n (DataW.weights_mem_each (j := 0) rfl rfl n hn))
 obtain ⟨xs, hbs, hxs⟩ := P.open_bs (hval 0 54 v0 rfl rfl) h0 hreach0
 obtain ⟨n, rfl, rfl, rfl, w1⟩ := open_int Tryz.underlying3 (hval 1 3 v1 rfl rfl) h1
 clear hA0 hval0 hsz
 refine (P.packOne_any W v0 xs n hbs hxs).mono fun e W' ⟨he, hb⟩ => ?_
 subst he
 have hlt := hW'.lt
 exact ⟨_, rfl, [d0, .lit (.int .i64 n)], [], p0 ++ [], [], p0 ++ [], [], hW', trodAll_cons_mk (shut_bool Tryz.underlying4 _) trodAll_mk0,
  trodAll_mk2 (P.args_stay (by kernel_rfl) (of_decide_eq_true (by kernel_rfl)) h0 hb (fun x hx => hlt x (by simp [hx]))) (shut_int Tryz.underlying3 w1), rfl, hb.frame _, fun h => by cases h⟩
theorem over : Rows.packOneRow.holds Tryz.pinned (OpenSpec.ofChange Rows.packOneSpec) :=
 OpenClaim.holds_of_wide 7 Tryz.f7 rfl rfl rfl rfl rfl rfl rfl ⟨rfl, rfl, rfl, rfl, rfl⟩ rfl rfl rfl rfl rfl (by kernel_rfl) Tryz.func7 (by kernel_rfl)
  (of_decide_eq_true (by kernel_rfl)) (by unfold Func.isWrapper; first | (rw [if_pos (by decide +kernel)]; kernel_rfl) | (rw [if_neg (by decide +kernel)]; exact ⟨rfl, rfl⟩))
  (fun os started H enc _ => lifted os started H enc)
end Go.Proofs.YtilbbemdinpjcaaGreat.packOne
namespace Go.Proofs.YtilbbemdinpjcaaGreat
theorem packOne_said : Rows.PackOneSaid := packOne.over
end Go.Proofs.YtilbbemdinpjcaaGreat
