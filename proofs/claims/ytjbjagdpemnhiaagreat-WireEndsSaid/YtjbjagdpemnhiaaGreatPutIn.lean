/-
  What a Put is, as it comes in.
-/
import Derived.Test.YtjbjagdpemnhiaaGreatNilWalk
import Derived.WalkKit
import Derived.ProofKit
import Derived.OpenShut
import Derived.Carry
namespace Go.Proofs.YtjbjagdpemnhiaaGreat
open Go.ChangeShapes Go.WideShapes Go.ChangeAt Go.RowKit

theorem cells35 : Tryz.prog.cellTypes Tryz.prog.depth 28 = some [3, 3, 23, 5, 5, 5, 5, 5, 5, 5, 5, 5, 5, 5, 5, 5, 5, 5, 5, 5, 5, 5, 5, 5, 5, 5, 5, 5, 5, 5, 5, 5, 5, 5, 5, 26, 9] := by kernel_rfl
theorem size35 : Tryz.prog.cellsOf 28 = 37 := by kernel_rfl
theorem cell_int {W : World} {base : Nat} {t : TypeId} {k : IntKind} {v : Value} (ht : Tryz.prog.underlying t = some (.int k)) (h : Cell.okWide Tryz.prog W .any base t v) : ∃ n, v = .int k n := by
  simp only [Cell.okWide, ht] at h
  cases v <;> simp_all [Cell.ok]
theorem cell_slice {W : World} {base : Nat} {t e : TypeId} {v : Value} (ht : Tryz.prog.underlying t = some (.slice e)) (h : Cell.okWide Tryz.prog W .any base t v) : ∃ a l c, v = .slice a l c := by
  simp only [Cell.okWide, ht] at h
  cases v <;> simp_all [Cell.ok]
theorem cell_text {W : World} {base : Nat} {t : TypeId} {v : Value} (ht : Tryz.prog.underlying t = some .string) (h : Cell.okWide Tryz.prog W .any base t v) : ∃ s, v = .string s := by
  simp only [Cell.okWide, ht] at h
  cases v <;> simp_all [Cell.ok]
theorem putC_of {W : World} {base : Nat} {v : Value} (h : Value.okWide Tryz.prog W .any base 28 v) : ∃ cs, v = .agg cs ∧ PutC cs := by
  simp only [Value.okWide, Tryz.underlying28] at h
  obtain ⟨cs, rfl, hsz, ts, hts, _, hc⟩ := h
  rw [cells35] at hts
  cases hts
  rw [size35] at hsz
  have at_ : ∀ (j : Nat) (u : TypeId), [3, 3, 23, 5, 5, 5, 5, 5, 5, 5, 5, 5, 5, 5, 5, 5, 5, 5, 5, 5, 5, 5, 5, 5, 5, 5, 5, 5, 5, 5, 5, 5, 5, 5, 5, 26, 9][j]? = some u → j < 37 → ∃ v, cs[j]? = some v ∧ Cell.okWide Tryz.prog W .any base u v := by
    intro j u hu hj
    have hv : cs[j]? = some cs[j] := Array.getElem?_eq_getElem (by omega)
    obtain ⟨u', hu', hk⟩ := hc j _ hv
    rw [show j % _ = j from Nat.mod_eq_of_lt (by simpa using hj), hu] at hu'
    cases hu'
    exact ⟨_, hv, hk⟩
  refine ⟨cs, rfl, hsz, ?_, ?_, ?_, ?_, ?_⟩
  · obtain ⟨v, hv, hk⟩ := at_ 0 3 rfl (by omega)
    obtain ⟨n, rfl⟩ := cell_int Tryz.underlying3 hk
    exact ⟨n, hv⟩
  · obtain ⟨v, hv, hk⟩ := at_ 1 3 rfl (by omega)
    obtain ⟨n, rfl⟩ := cell_int Tryz.underlying3 hk
    exact ⟨n, hv⟩
  · obtain ⟨v, hv, hk⟩ := at_ 2 23 rfl (by omega)
    obtain ⟨n, rfl⟩ := cell_int Tryz.underlying23 hk
    exact ⟨n, hv⟩
  · obtain ⟨v, hv, hk⟩ := at_ 35 26 rfl (by omega)
    obtain ⟨a, l, c, rfl⟩ := cell_slice Tryz.underlying26 hk
    exact ⟨a, l, c, hv⟩
  · obtain ⟨v, hv, hk⟩ := at_ 36 9 rfl (by omega)
    obtain ⟨n, rfl⟩ := cell_text Tryz.underlying9 hk
    exact ⟨n, hv⟩
theorem args_stay {H : Type} {enc : TypeId × Value → H} {W W' : World} {t : TypeId} {v : Value} {d : DataW H} {ps : List MemPlace} (hr : Tryz.prog.readableRec t = true) (hrow : t < Tryz.prog.types.size)
    (h : DataW.Trod enc Tryz.prog W 0 (fun _ => true) true t v d ps) (hb : Below W.heap.size W W') (hlt : ∀ x ∈ ps, x.block < W.heap.size) : DataW.Trod enc Tryz.prog W' 0 (fun b => decide (b < W.heap.size)) true t v d ps :=
  Below.trod (by kernel_rfl) hr hrow h hb hlt
end Go.Proofs.YtjbjagdpemnhiaaGreat
