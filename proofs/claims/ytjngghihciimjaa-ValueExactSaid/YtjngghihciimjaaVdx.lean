/-
  Rows of bundles, and of assets, as they come in, with their room.
-/
import Derived.Test.YtjngghihciimjaaVdt
namespace Go.Proofs.Ytjngghihciimjaa
set_option maxRecDepth 100000
open Go.RowKit Go.Sort Go.Maps Go.ChangeShapes Go.WideShapes Go.ChangeAt Go.Deep

section
variable {H : Type} {enc : TypeId × Value → H} {W : World}
/-- A row that is nil has no room. -/
theorem assetsC_in {fuel : Nat} {cs : List Value} {x : DataW H × List MemPlace} (hf : DataW.trod enc Try.prog W 0 (fun _ => true) true fuel 22 cs = some x) :
    ∃ (pa : Option Addr) (l : List As) (c : Nat), cs = [.slice pa l.length c] ∧ Row W pa l ∧ (pa = none → c = 0) := by
  obtain ⟨pa, l, c, e, hr⟩ := assets_in hf
  refine ⟨pa, l, c, e, hr, fun hn => ?_⟩
  rcases open_slice Try.underlying22 hf with ⟨hcs, _⟩ | ⟨a, len, cap, m, n, D, Pl, hcs, _⟩
  · rw [e] at hcs
    simp only [List.cons.injEq, Value.slice.injEq, and_true] at hcs
    exact hcs.2.2
  · rw [e, hn] at hcs
    simp at hcs
/-- What is asked of a bundle that is copied. -/
def Room (v : Va) : Prop := v.pa = none → v.c = 0
theorem value_in {fuel : Nat} {cs : List Value} {x : DataW H × List MemPlace} (hf : DataW.trod enc Try.prog W 0 (fun _ => true) true fuel 24 cs = some x) :
    ∃ v : Va, cs = (vaC v).toList ∧ VaOk W v ∧ Room v := by
  obtain ⟨ys, m, _, hx, hlen, hyl, hg⟩ := DataW.trod_struct Try.underlying24 hf
  rw [dc24] at hlen
  have hyl2 : ys.length = 2 := hyl
  have at_ := fun (j : Nat) (f : Field) (hj : j < 2) hfj => (hg j f hfj).trans (List.getElem?_eq_getElem (show j < ys.length by omega))
  obtain ⟨n0, e0, _, w0⟩ := DataW.trod_int Try.underlying2 (at_ 0 _ (by omega) rfl)
  obtain ⟨pa, l, c, e1, hr, hc⟩ := assetsC_in (at_ 1 _ (by omega) rfl)
  obtain ⟨hlo, hhi⟩ := int_of w0
  have f0 : (cs.drop 0).take (Try.prog.cellsOf 2) = [.int .i64 n0] := e0
  have f1 : (cs.drop 1).take (Try.prog.cellsOf 22) = [.slice pa l.length c] := e1
  rw [dc2] at f0
  rw [dc22] at f1
  refine ⟨⟨n0, pa, l, c⟩, ?_, ⟨hlo, hhi, hr⟩, hc⟩
  have h2 := cut2 (l := cs) hlen
  rw [f0, f1] at h2
  exact h2
theorem values_in {fuel : Nat} {cs : List Value} {x : DataW H × List MemPlace} (hf : DataW.trod enc Try.prog W 0 (fun _ => true) true fuel 29 cs = some x) :
    ∃ (pa : Option Addr) (vs : List Va) (c : Nat), cs = [.slice pa vs.length c] ∧ RowV W pa vs ∧ (∀ v, v ∈ vs → Room v) ∧ (pa = none → c = 0) := by
  rcases open_slice Try.underlying29 hf with ⟨hcs, _⟩ | ⟨a, len, cap, m, n, D, Pl, hcs, hle, hl, hm, hmm, hx, hi⟩
  · exact ⟨none, [], 0, hcs, ⟨Nat.zero_le _, fun h => absurd h (by simp)⟩, fun v hv => by simp at hv, fun _ => rfl⟩
  · simp only [if_true] at hmm
    subst hmm
    have each : ∀ i, i < len → ∃ q : Va, (VaOk W q ∧ Room q) ∧ ∀ j v, (vaC q)[j]? = some v → W.cell? (a.add (i * 2 + j)) = some v := by
      intro i hil
      obtain ⟨cs', hc, ht⟩ := hi i (by omega)
      rw [dc24] at hc
      obtain ⟨_, hcl, hat⟩ := World.cells?_some hc
      obtain ⟨q, rfl, hq, hrm⟩ := value_in ht
      refine ⟨q, ⟨hq, hrm⟩, fun j v hj => ?_⟩
      have hj2 : j < 2 := by
        have := (Array.getElem?_eq_some_iff.1 hj).1
        rwa [vaC_size q] at this
      rw [← Go.Deep.add_add, hat j hj2, Array.getElem?_toList, hj]
    obtain ⟨xs, hpl, hps⟩ := list_of (⟨0, none, [], 0⟩ : Va) (fun i q => (VaOk W q ∧ Room q) ∧ ∀ j v, (vaC q)[j]? = some v → W.cell? (a.add (i * 2 + j)) = some v) len each
    subst hpl
    have hget : ∀ i q, xs[i]? = some q → (VaOk W q ∧ Room q) ∧ ∀ j v, (vaC q)[j]? = some v → W.cell? (a.add (i * 2 + j)) = some v := fun i q hq => by
      have h1 := hps i (List.getElem?_eq_some_iff.1 hq).1
      rw [List.getD_eq_getElem?_getD, hq] at h1
      exact h1
    refine ⟨some a, xs, m, hcs, ⟨by omega, fun hpos => ?_⟩, fun q hq => ?_, fun e => by cases e⟩
    · obtain ⟨b, off, spot⟩ := a
      obtain ⟨hok0, h00⟩ := hget 0 _ (List.getElem?_eq_getElem hpos)
      have h0 := h00 0 _ (show (vaC xs[0])[0]? = some (.int .i64 xs[0].coin) from rfl)
      have hspot : spot = none := by simpa [Addr.add] using World.cell?_spot h0
      subst hspot
      refine ⟨b, off, rfl, block_lt_of_cell h0, fun i q hi2 => ⟨fun j v hj => ?_, (hget i q hi2).1.1⟩⟩
      rw [Array.getElem?_toList] at hj
      have h2 := (hget i q hi2).2 j v hj
      rw [Addr.add_lit] at h2
      rw [show off + i * 2 + j = off + (i * 2 + j) by omega]
      exact h2
    · obtain ⟨i, hi2⟩ := List.getElem?_of_mem hq
      exact (hget i q hi2).1.2
/-- A bundle as it comes in. -/
theorem open_valueC {b0 : Nat} {v : Value} {d : DataW H} {p : List MemPlace} (hv : Value.okWide Try.prog W .any b0 24 v) (h : DataW.Trod enc Try.prog W 0 (fun _ => true) true 24 v d p) :
    ∃ x : Va, v = .agg #[.int .i64 x.coin, .slice x.pa x.l.length x.c] ∧ VaOk W x ∧ Room x := by
  simp only [Value.okWide, Try.underlying24] at hv
  obtain ⟨cs, rfl, -⟩ := hv
  obtain ⟨fuel, hf⟩ := h
  obtain ⟨x, e, hx, hc⟩ := value_in hf
  have e2 : cs.toList = (vaC x).toList := e
  exact ⟨x, congrArg Value.agg (Array.toList_inj.1 e2), hx, hc⟩
/-- A row of bundles as it comes in. -/
theorem open_values {b0 : Nat} {v : Value} {d : DataW H} {p : List MemPlace} (hv : Value.okWide Try.prog W .any b0 29 v) (h : DataW.Trod enc Try.prog W 0 (fun _ => true) true 29 v d p) :
    ∃ (pa : Option Addr) (vs : List Va) (c : Nat), v = .slice pa vs.length c ∧ RowV W pa vs ∧ (∀ v, v ∈ vs → Room v) ∧ (pa = none → c = 0) := by
  obtain ⟨a0, len, cap, rfl⟩ := okWide_slice Try.underlying29 hv
  obtain ⟨fuel, hf⟩ := h
  obtain ⟨pa, vs, c, e, hr⟩ := values_in hf
  exact ⟨pa, vs, c, by simpa [Value.cells] using e, hr⟩
/-- A row of assets as it comes in. -/
theorem open_assets {b0 : Nat} {v : Value} {d : DataW H} {p : List MemPlace} (hv : Value.okWide Try.prog W .any b0 22 v) (h : DataW.Trod enc Try.prog W 0 (fun _ => true) true 22 v d p) :
    ∃ (pa : Option Addr) (l : List As) (c : Nat), v = .slice pa l.length c ∧ Row W pa l ∧ (pa = none → c = 0) := by
  obtain ⟨a0, len, cap, rfl⟩ := okWide_slice Try.underlying22 hv
  obtain ⟨fuel, hf⟩ := h
  obtain ⟨pa, l, c, e, hr⟩ := assetsC_in hf
  exact ⟨pa, l, c, by simpa [Value.cells] using e, hr⟩
theorem open_num {b0 : Nat} {v : Value} {d : DataW H} {p : List MemPlace} (hv : Value.okWide Try.prog W .any b0 2 v) (h : DataW.Trod enc Try.prog W 0 (fun _ => true) true 2 v d p) : ∃ n : Int, v = .int .i64 n ∧ -9223372036854775808 ≤ n ∧ n < 9223372036854775808 := by
  obtain ⟨z, rfl⟩ := okWide_int Try.underlying2 hv
  obtain ⟨fuel, hf⟩ := h
  obtain ⟨n, e, _, w⟩ := DataW.trod_int Try.underlying2 hf
  obtain ⟨h1, h2⟩ := int_of w
  have e2 : z = n := by simpa [Value.cells] using e
  subst e2
  exact ⟨z, rfl, h1, h2⟩
end
end Go.Proofs.Ytjngghihciimjaa
