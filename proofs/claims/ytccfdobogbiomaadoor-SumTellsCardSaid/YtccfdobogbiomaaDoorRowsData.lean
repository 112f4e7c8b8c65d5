/-
  Rows of bytes as plain data.
-/
import Derived.Test.YtccfdobogbiomaaDoorData
namespace Go.Proofs.YtccfdobogbiomaaDoor
open Go.ChangeShapes Go.WideShapes Go.ChangeAt Go.RowKit Go.Deep Sha

theorem cells38 : Tryd.prog.cellsOf 38 = 1 := by kernel_rfl
theorem bytes5 : Tryd.prog.bytesOf 5 = 1 := by kernel_rfl
theorem weights_in {H : Type} {P : Program} {e : TypeId} {d : DataW H} {n : Nat} (hn : n ∈ d.weights P e) : ∀ {l : List (DataW H)}, d ∈ l → n ∈ DataW.weightsAll P e l
  | [], h => by cases h
  | x :: l, h => by
    unfold DataW.weightsAll
    rcases List.mem_cons.1 h with rfl | h
    · exact List.mem_append_left _ hn
    · exact List.mem_append_right _ (weights_in hn h)
section
variable {H : Type} {enc : TypeId × Value → H} {W : World}
theorem bytes_cell {fuel : Nat} {u : Value} {x : DataW H × List MemPlace} (hf : DataW.trod enc Tryd.prog W 0 (fun _ => true) true fuel 38 [u] = some x) :
    ∃ q : Part, u = q.val ∧ Good W q ∧ (q.at_ = none → q.cap = 0) ∧ (q.xs.length = 0 ∨ ∃ elems spare : List (DataW H), x.1 = .slice elems spare ∧ elems.length = q.xs.length) := by
  rcases open_ints Tryd.underlying38 Tryd.underlying5 cells5 hf with ⟨hcs, hx⟩ | ⟨a, len, cap, zs, hcs, _, hl, hm, hz, hx, hcell, hwz⟩
  · obtain rfl := (List.cons.inj hcs).1
    exact ⟨⟨none, [], 0⟩, rfl, good_none _ _ _ (Nat.zero_le _), fun _ => rfl, .inl rfl⟩
  · obtain rfl := (List.cons.inj hcs).1
    simp only [if_true] at hz
    have hbyte : ∀ j, j < len → ∃ b : UInt8, zs.getD j 0 = (b.toNat : Int) := fun j hj => byte_of (hwz _ (by
      rw [List.getD_eq_getElem?_getD, List.getElem?_eq_getElem (by omega)]
      exact List.getElem_mem _))
    obtain ⟨xs, hxl, hxs⟩ := list_of (0 : UInt8) (fun j b => zs.getD j 0 = (b.toNat : Int)) len hbyte
    subst hxl
    refine ⟨⟨some a, xs, cap⟩, rfl, ⟨hl, hm, fun hp => ?_⟩, (fun h => by cases h), .inr ⟨_, _, by rw [hx], by simp [lits]; omega⟩⟩
    obtain ⟨b, off, rfl, hc⟩ := ints_at hcell (by have : 0 < xs.length := hp; omega)
    refine ⟨b, off, rfl, ?_, fun j hj => ?_⟩
    · exact World.block_lt_of_cell? W ⟨b, off + 0, none⟩ (hc 0 (by have : 0 < xs.length := hp; omega))
    · have hj' : j < xs.length := hj
      rw [hc j (by omega), hxs j hj']
theorem open_rows {b0 : Nat} {v : Value} {d : DataW H} {p : List MemPlace} (hv : Value.okWide Tryd.prog W .any b0 22 v) (h : DataW.Trod enc Tryd.prog W 0 (fun _ => true) true 22 v d p) (hreach : ∀ n ∈ d.weights Tryd.prog 22, n ≤ reachBytes) :
    ∃ (va : Option Addr) (ps : List Part) (cap : Nat), v = .slice va ps.length cap ∧ ps.length ≤ maxLen ∧ (∀ p, p ∈ ps → Good W p ∧ (p.at_ = none → p.cap = 0) ∧ p.xs.length ≤ 140737488355328) ∧
      (0 < ps.length → ∃ g off, va = some ⟨g, off, none⟩ ∧ g < W.heap.size ∧ PSrc W g off ps) := by
  obtain ⟨a0, len, cap, rfl⟩ := okWide_slice Tryd.underlying22 hv
  obtain ⟨fuel, hf⟩ := h
  rcases open_slice Tryd.underlying22 hf with ⟨hcs, hx⟩ | ⟨a, len', cap', m, n, D, Pl, hcs, _, hl, hm, hmm, hx, hi⟩
  · simp only [Value.cells, List.cons.injEq, Value.slice.injEq, and_true] at hcs
    obtain ⟨rfl, rfl, rfl⟩ := hcs
    exact ⟨none, [], 0, rfl, Nat.zero_le _, (fun p hp => by cases hp), fun h => absurd h (by simp)⟩
  · simp only [Value.cells, List.cons.injEq, Value.slice.injEq, and_true] at hcs
    obtain ⟨rfl, rfl, rfl⟩ := hcs
    simp only [if_true] at hmm
    subst hmm
    have hd : d = .slice ((List.range len).map D) ((List.range (m - len)).map fun j => D (len + j)) := (Prod.mk.inj hx).1
    have each : ∀ i, i < len → ∃ q : Part, W.cell? (a.add i) = some q.val ∧ Good W q ∧ (q.at_ = none → q.cap = 0) ∧ q.xs.length ≤ 140737488355328 := by
      intro i hil
      obtain ⟨cs', hc, ht⟩ := hi i (by omega)
      rw [cells38, Nat.mul_one] at hc
      obtain ⟨_, hcl, hat⟩ := World.cells?_some hc
      match cs', hcl with
      | [u], _ =>
        have h0 : W.cell? (a.add i) = some u := by
          have := hat 0 (by decide)
          simpa [Addr.add] using this
        obtain ⟨q, rfl, hg, hne, hlen⟩ := bytes_cell ht
        refine ⟨q, h0, hg, hne, ?_⟩
        rcases hlen with h | ⟨elems, spare, e, he⟩
        · omega
        · have hin : D i ∈ (List.range len).map D := List.mem_map.2 ⟨i, List.mem_range.2 hil, rfl⟩
          have hw : (elems.length + spare.length) * 1 ∈ (D i).weights Tryd.prog 38 := by
            have e' : D i = .slice elems spare := e
            rw [e', DataW.weights, Tryd.underlying38]
            simp only [bytes5]
            exact List.mem_cons_self
          have := hreach _ (by
            rw [hd, DataW.weights, Tryd.underlying22]
            exact List.mem_cons_of_mem _ (List.mem_append_left _ (weights_in hw hin)))
          have hr : reachBytes = 140737488351232 := rfl
          omega
    obtain ⟨ps, hpl, hps⟩ := list_of (⟨none, [], 0⟩ : Part) (fun i q => W.cell? (a.add i) = some q.val ∧ Good W q ∧ (q.at_ = none → q.cap = 0) ∧ q.xs.length ≤ 140737488355328) len each
    subst hpl
    refine ⟨some a, ps, _, rfl, by omega, fun p hp => ?_, fun hpos => ?_⟩
    · obtain ⟨j, hj, rfl⟩ := List.getElem_of_mem hp
      have := (hps j hj).2
      rwa [List.getD_eq_getElem?_getD, List.getElem?_eq_getElem hj] at this
    · obtain ⟨b, off, spot⟩ := a
      have hspot : spot = none := by simpa [Addr.add] using World.cell?_spot (hps 0 hpos).1
      subst hspot
      refine ⟨b, off, rfl, ?_, fun j hj => ?_⟩
      · exact World.block_lt_of_cell? W ⟨b, off + 0, none⟩ (by have := (hps 0 hpos).1; rwa [addr_add] at this)
      · have := (hps j hj).1; rwa [addr_add] at this
end
end Go.Proofs.YtccfdobogbiomaaDoor
