/-
  Terms and nodes as they come in.
-/
import Derived.Test.YtieoiklgoeclaaaLord
import Derived.WalkKit
import Derived.ProofKit
import Derived.OpenShut
import Derived.Carry
import Derived.SizedLaws
import Derived.Deep.Slices
import Derived.ChangeSlices
namespace Go.Proofs.Ytieoiklgoeclaaa
open Go.ChangeShapes Go.WideShapes Go.ChangeAt Go.RowKit Go.Deep

theorem word_of {a : Int} (h : (Lit.int .u64 a).wf = true) : ∃ n : Nat, a = (n : Int) ∧ n < 2 ^ 64 := by
  have hmin : IntKind.u64.min = 0 := rfl
  have hmax : IntKind.u64.max = 18446744073709551615 := rfl
  simp only [Lit.wf, Bool.and_eq_true, decide_eq_true_eq] at h
  exact ⟨a.toNat, by omega, by omega⟩
theorem int_of {a : Int} (h : (Lit.int .i64 a).wf = true) : -9223372036854775808 ≤ a ∧ a ≤ 9223372036854775807 := by
  have hmin : IntKind.i64.min = -9223372036854775808 := rfl
  have hmax : IntKind.i64.max = 9223372036854775807 := rfl
  simp only [Lit.wf, Bool.and_eq_true, decide_eq_true_eq] at h
  omega
theorem list_of {α : Type} (z : α) (P : Nat → α → Prop) : ∀ n, (∀ j, j < n → ∃ b, P j b) → ∃ l : List α, l.length = n ∧ ∀ j (h : j < l.length), P j l[j]
  | 0, _ => ⟨[], rfl, fun j hj => absurd hj (by simp)⟩
  | n + 1, h => by
    obtain ⟨l, hl, hp⟩ := list_of z P n (fun j hj => h j (by omega))
    obtain ⟨b, hb⟩ := h n (by omega)
    refine ⟨l ++ [b], by simp [hl], fun j hj => ?_⟩
    by_cases hjn : j < l.length
    · rw [List.getElem_append_left hjn]; exact hp j hjn
    · rw [List.length_append, List.length_singleton] at hj
      obtain rfl : j = l.length := by omega
      rw [List.getElem_append_right (Nat.le_refl _)]
      simp only [Nat.sub_self, List.getElem_singleton]
      rw [hl]; exact hb
theorem size32 : Try.prog.cellsOf 32 = 5 := by kernel_rfl
theorem size24 : Try.prog.cellsOf 24 = 1 := by kernel_rfl
theorem bytes32 : Try.prog.bytesOf 32 = 48 := by kernel_rfl
theorem cells24 : Try.prog.cellTypes Try.prog.depth 24 = some [22] := by kernel_rfl
theorem args_stay {H : Type} {enc : TypeId × Value → H} {W W' : World} {t : TypeId} {v : Value} {d : DataW H} {ps : List MemPlace} (hr : Try.prog.readableRec t = true) (hrow : t < Try.prog.types.size)
    (h : DataW.Trod enc Try.prog W 0 (fun _ => true) true t v d ps) (hb : Below W.heap.size W W') (hlt : ∀ x ∈ ps, x.block < W.heap.size) : DataW.Trod enc Try.prog W' 0 (fun b => decide (b < W.heap.size)) true t v d ps :=
  Below.trod (by kernel_rfl) hr hrow h hb hlt
section
variable {H : Type} {enc : TypeId × Value → H} {W : World}
theorem weights_in {P : Program} {e : TypeId} {d : DataW H} {n : Nat} (hn : n ∈ d.weights P e) : ∀ {l : List (DataW H)}, d ∈ l → n ∈ DataW.weightsAll P e l
  | [], h => by cases h
  | x :: l, h => by
    unfold DataW.weightsAll
    rcases List.mem_cons.1 h with rfl | h
    · exact List.mem_append_left _ hn
    · exact List.mem_append_right _ (weights_in hn h)
theorem cut5 (l : List Value) (h : l.length = 5) : l = (l.drop 0).take 1 ++ ((l.drop 1).take 1 ++ ((l.drop 2).take 1 ++ ((l.drop 3).take 1 ++ (l.drop 4).take 1))) := by
  match l, h with
  | [a, b, c, d, e], _ => rfl
theorem one_cell {cs : Array Value} (h : cs.size = 1) {u : Value} (e : cs.toList.take 1 = [u]) : cs = #[u] := by
  have h2 : cs.toList.length = 1 := by simpa using h
  rw [List.take_of_length_le (by omega)] at e
  exact Array.toList_inj.1 e
/-- A node as it comes in. -/
theorem node_in {fuel : Nat} {cs : List Value} {x : DataW H × List MemPlace} (hf : DataW.trod enc Try.prog W 0 (fun _ => true) true fuel 32 cs = some x) (hreach : ∀ n ∈ x.1.weights Try.prog 32, n ≤ reachBytes) :
    ∃ n : Nd, cs = n.cells.toList ∧ n.bits < 2 ^ 64 ∧ n.kids ≤ 9223372036854775807 ∧ n.txt.size ≤ 140737488355328 := by
  obtain ⟨ys, m, _, hx, hlen, hyl, hg⟩ := DataW.trod_struct Try.underlying32 hf
  rw [size32] at hlen
  have hyl5 : ys.length = 5 := hyl
  have at_ := fun (j : Nat) (f : Field) (hj : j < 5) hfj => (hg j f hfj).trans (List.getElem?_eq_getElem (show j < ys.length by omega))
  obtain ⟨n0, e0, _, w0⟩ := DataW.trod_int Try.underlying29 (at_ 0 _ (by omega) rfl)
  obtain ⟨n1, e1, _, w1⟩ := DataW.trod_int Try.underlying2 (at_ 1 _ (by omega) rfl)
  obtain ⟨n2, e2, _, w2⟩ := DataW.trod_int Try.underlying30 (at_ 2 _ (by omega) rfl)
  obtain ⟨s, e3, ed, hsl⟩ := DataW.trod_string Try.underlying9 (at_ 3 _ (by omega) rfl)
  obtain ⟨n4, e4, _, w4⟩ := DataW.trod_int Try.underlying3 (at_ 4 _ (by omega) rfl)
  obtain ⟨m2, rfl, hm2⟩ := word_of w2
  have hxl : s.size ≤ 140737488355328 := by
    have hw : s.data.toList.length ∈ (ys[3].1).weights Try.prog 9 := by
      rw [ed, DataW.weights]
      exact List.mem_cons_self
    have := hreach _ (by
      rw [hx, DataW.weights, Try.underlying32]
      exact DataW.weights_mem_each (j := 3) rfl (by rw [List.getElem?_map, List.getElem?_eq_getElem (by omega)]; rfl) _ hw)
    have hr : reachBytes = 140737488351232 := rfl
    rw [hr] at this
    have e : s.data.toList.length = s.size := by simp
    omega
  refine ⟨⟨n0, n1, m2, s, n4⟩, ?_, hm2, (int_of w4).2, hxl⟩
  have hc29 : Try.prog.cellsOf 29 = 1 := by kernel_rfl
  have hc2 : Try.prog.cellsOf 2 = 1 := by kernel_rfl
  have hc30 : Try.prog.cellsOf 30 = 1 := by kernel_rfl
  have hc9 : Try.prog.cellsOf 9 = 1 := by kernel_rfl
  have hc3 : Try.prog.cellsOf 3 = 1 := by kernel_rfl
  have f0 : (cs.drop 0).take (Try.prog.cellsOf 29) = [.int .i64 n0] := e0
  have f1 : (cs.drop 1).take (Try.prog.cellsOf 2) = [.int .i64 n1] := e1
  have f2 : (cs.drop 2).take (Try.prog.cellsOf 30) = [.int .u64 m2] := e2
  have f3 : (cs.drop 3).take (Try.prog.cellsOf 9) = [.string s] := e3
  have f4 : (cs.drop 4).take (Try.prog.cellsOf 3) = [.int .i64 n4] := e4
  rw [hc29] at f0
  rw [hc2] at f1
  rw [hc30] at f2
  rw [hc9] at f3
  rw [hc3] at f4
  rw [cut5 cs hlen, f0, f1, f2, f3, f4]
  rfl
/-- Nodes in a row as they come in. -/
theorem nodes_in {fuel : Nat} {cs : List Value} {x : DataW H × List MemPlace} (hf : DataW.trod enc Try.prog W 0 (fun _ => true) true fuel 22 cs = some x) (hreach : ∀ n ∈ x.1.weights Try.prog 22, n ≤ reachBytes) :
    ∃ t : TK, cs = [t.v] ∧ TIn W t := by
  rcases open_slice Try.underlying22 hf with ⟨hcs, _⟩ | ⟨a, len, cap, m, n, D, Pl, hcs, _, hl, hm, hmm, hx, hi⟩
  · exact ⟨⟨none, 0, []⟩, hcs, ⟨fun h => absurd h (by simp), fun x hx => absurd hx (by simp), by simp, by simp, fun _ => rfl, fun x hx => absurd hx (by simp), fun x hx => absurd hx (by simp)⟩⟩
  · simp only [if_true] at hmm
    subst hmm
    have hd : x.1 = .slice ((List.range len).map D) ((List.range (m - len)).map fun j => D (len + j)) := by rw [hx]
    have hr : reachBytes = 140737488351232 := rfl
    have hcapr : m * 48 ≤ 140737488351232 := by
      have := hreach ((((List.range len).map D).length + ((List.range (m - len)).map fun j => D (len + j)).length) * 48) (by
        rw [hd, DataW.weights, Try.underlying22]
        simp only [bytes32]
        exact List.mem_cons_self)
      simp only [List.length_map, List.length_range] at this
      rw [hr] at this
      have e : len + (m - len) = m := by omega
      rw [e] at this
      exact this
    have each : ∀ i, i < len → ∃ q : Nd, (q.bits < 2 ^ 64 ∧ q.kids ≤ 9223372036854775807 ∧ q.txt.size ≤ 140737488355328) ∧ ∀ j v, q.cells[j]? = some v → W.cell? (a.add (i * 5 + j)) = some v := by
      intro i hil
      obtain ⟨cs', hc, ht⟩ := hi i (by omega)
      rw [size32] at hc
      obtain ⟨_, hcl, hat⟩ := World.cells?_some hc
      obtain ⟨q, rfl, h1, h2, h3⟩ := node_in ht (fun n hn => hreach n (by
        rw [hd, DataW.weights, Try.underlying22]
        exact List.mem_cons_of_mem _ (List.mem_append_left _ (weights_in hn (List.mem_map.2 ⟨i, List.mem_range.2 hil, rfl⟩)))))
      refine ⟨q, ⟨h1, h2, h3⟩, fun j v hj => ?_⟩
      have hj5 : j < 5 := cells_lt q hj
      rw [← Go.Deep.add_add, hat j hj5, Array.getElem?_toList, hj]
    obtain ⟨xs, hpl, hps⟩ := list_of (⟨0, 0, 0, ⟨#[]⟩, 0⟩ : Nd) (fun i q => (q.bits < 2 ^ 64 ∧ q.kids ≤ 9223372036854775807 ∧ q.txt.size ≤ 140737488355328) ∧ ∀ j v, q.cells[j]? = some v → W.cell? (a.add (i * 5 + j)) = some v) len each
    subst hpl
    have mem : ∀ x ∈ xs, x.bits < 2 ^ 64 ∧ x.kids ≤ 9223372036854775807 ∧ x.txt.size ≤ 140737488355328 := fun x hx => by
      obtain ⟨i, hi2, rfl⟩ := List.getElem_of_mem hx
      exact (hps i hi2).1
    refine ⟨⟨some a, m, xs⟩, hcs, ⟨fun hpos => ?_, fun x hx => (mem x hx).2.2, by simp only; omega, hl, (fun h => by cases h), fun x hx => (mem x hx).1, fun x hx => (mem x hx).2.1⟩⟩
    obtain ⟨b, off, spot⟩ := a
    have h0 := (hps 0 hpos).2 0 _ rfl
    have hspot : spot = none := by simpa [Addr.add] using World.cell?_spot h0
    subst hspot
    refine ⟨b, off, rfl, block_lt_of_cell h0, fun i hi2 j v hj => ?_⟩
    have h2 := (hps i hi2).2 j v hj
    rw [Addr.add_mid] at h2
    rw [show off + i * 5 + j = off + (i * 5 + j) by omega]
    exact h2
theorem open_term {b0 : Nat} {v : Value} {d : DataW H} {p : List MemPlace} (hv : Value.okWide Try.prog W .any b0 24 v) (h : DataW.Trod enc Try.prog W 0 (fun _ => true) true 24 v d p) (hreach : ∀ n ∈ d.weights Try.prog 24, n ≤ reachBytes) :
    ∃ t : TK, v = .agg #[t.v] ∧ TIn W t := by
  simp only [Value.okWide, Try.underlying24] at hv
  obtain ⟨cs, rfl, hsz, -⟩ := hv
  rw [size24] at hsz
  obtain ⟨fuel, hf⟩ := h
  obtain ⟨ys, m, _, hx, hlen, hyl, hg⟩ := DataW.trod_struct Try.underlying24 hf
  have hyl1 : ys.length = 1 := hyl
  have h0 := (hg 0 _ rfl).trans (List.getElem?_eq_getElem (show 0 < ys.length by omega))
  have hd : d = .agg (ys.map Prod.fst) := (Prod.mk.inj hx).1
  obtain ⟨t, e0, ht⟩ := nodes_in h0 (fun n hn => hreach n (by
    rw [hd, DataW.weights, Try.underlying24]
    exact DataW.weights_mem_each (j := 0) rfl (by rw [List.getElem?_map, List.getElem?_eq_getElem (by omega)]; rfl) _ hn))
  refine ⟨t, ?_, ht⟩
  have hc22 : Try.prog.cellsOf 22 = 1 := by kernel_rfl
  have e1 : (cs.toList.drop 0).take (Try.prog.cellsOf 22) = [t.v] := e0
  rw [hc22, List.drop_zero] at e1
  rw [one_cell hsz e1]
theorem open_node {b0 : Nat} {v : Value} {d : DataW H} {p : List MemPlace} (hv : Value.okWide Try.prog W .any b0 32 v) (h : DataW.Trod enc Try.prog W 0 (fun _ => true) true 32 v d p) (hreach : ∀ n ∈ d.weights Try.prog 32, n ≤ reachBytes) :
    ∃ n : Nd, v = .agg n.cells ∧ n.bits < 2 ^ 64 ∧ n.kids ≤ 9223372036854775807 ∧ n.txt.size ≤ 140737488355328 := by
  simp only [Value.okWide, Try.underlying32] at hv
  obtain ⟨cs, rfl, -⟩ := hv
  obtain ⟨fuel, hf⟩ := h
  obtain ⟨n, e, h1⟩ := node_in hf hreach
  refine ⟨n, ?_, h1⟩
  have : cs.toList = n.cells.toList := e
  rw [Array.toList_inj.1 this]
end
end Go.Proofs.Ytieoiklgoeclaaa
