/-
  Rows of totals, rows of such rows, and numbers of 128 bits, as they come in, within the reach.
-/
import Derived.Test.YtjngghihciimjaaGreatJVdx
import Derived.Test.YtjngghihciimjaaGreatJWd
namespace Go.Proofs.YtjngghihciimjaaGreat
set_option maxRecDepth 100000
open Go.RowKit Go.Sort Go.Maps Go.ChangeShapes Go.WideShapes Go.ChangeAt Go.Deep

theorem halves_of (a : Int) (b : Nat) (h0 : -9223372036854775808 ≤ a) (h1 : a < 9223372036854775808) (hb : b < 18446744073709551616) : ∃ x : BitVec 128, hiS x = a ∧ loN x = b := by
  obtain ⟨t, ht⟩ : ∃ t, t = (a % 18446744073709551616).toNat := ⟨_, rfl⟩
  have hlt : t < 18446744073709551616 := by omega
  have e : (BitVec.ofNat 128 (t * 18446744073709551616 + b)).toNat = t * 18446744073709551616 + b := by
    rw [BitVec.toNat_ofNat, p128]
    exact Nat.mod_eq_of_lt (by omega)
  refine ⟨BitVec.ofNat 128 (t * 18446744073709551616 + b), ?_, ?_⟩
  · unfold hiS
    rw [e, IntKind.wrap_i64]
    omega
  · unfold loN
    rw [e]
    omega
theorem word64_of {a : Int} (h : (Lit.int .u64 a).wf = true) : ∃ n : Nat, a = (n : Int) ∧ n < 18446744073709551616 := by
  have hmin : IntKind.u64.min = 0 := rfl
  have hmax : IntKind.u64.max = 18446744073709551615 := rfl
  simp only [Lit.wf, Bool.and_eq_true, decide_eq_true_eq] at h
  exact ⟨a.toNat, by omega, by omega⟩
theorem dcW : Tryz.prog.cellsOf 48 = 2 := by kernel_rfl
theorem dcU : Tryz.prog.cellsOf 46 = 1 := by kernel_rfl
theorem dcT : Tryz.prog.cellsOf 75 = 35 := by kernel_rfl
theorem dcST : Tryz.prog.cellsOf 49 = 1 := by kernel_rfl
section
variable {H : Type} {enc : TypeId × Value → H} {W : World}
theorem weights_at {P : Program} {e : TypeId} {d : DataW H} {n : Nat} (hn : n ∈ d.weights P e) : ∀ {l : List (DataW H)}, d ∈ l → n ∈ DataW.weightsAll P e l
  | [], h => by cases h
  | x :: l, h => by
    unfold DataW.weightsAll
    rcases List.mem_cons.1 h with rfl | h
    · exact List.mem_append_left _ hn
    · exact List.mem_append_right _ (weights_at hn h)
theorem wide_in {fuel : Nat} {cs : List Value} {x : DataW H × List MemPlace} (hf : DataW.trod enc Tryz.prog W 0 (fun _ => true) true fuel 48 cs = some x) :
    ∃ y : BitVec 128, cs = (wC y).toList := by
  obtain ⟨ys, m, _, hx, hlen, hyl, hg⟩ := DataW.trod_struct Tryz.underlying48 hf
  rw [dcW] at hlen
  have hyl2 : ys.length = 2 := hyl
  have at_ := fun (j : Nat) (f : Field) (hj : j < 2) hfj => (hg j f hfj).trans (List.getElem?_eq_getElem (show j < ys.length by omega))
  obtain ⟨n0, e0, _, w0⟩ := DataW.trod_int Tryz.underlying2 (at_ 0 _ (by omega) rfl)
  obtain ⟨n1, e1, _, w1⟩ := DataW.trod_int Tryz.underlying46 (at_ 1 _ (by omega) rfl)
  obtain ⟨hlo, hhi⟩ := int_of w0
  obtain ⟨b, rfl, hb⟩ := word64_of w1
  have f0 : (cs.drop 0).take (Tryz.prog.cellsOf 2) = [.int .i64 n0] := e0
  have f1 : (cs.drop 1).take (Tryz.prog.cellsOf 46) = [.int .u64 b] := e1
  rw [dc2] at f0
  rw [dcU] at f1
  obtain ⟨y, h1, h2⟩ := halves_of n0 b hlo hhi hb
  refine ⟨y, ?_⟩
  have h3 := cut2 (l := cs) hlen
  rw [f0, f1, ← h1, ← h2] at h3
  exact h3
theorem cut35 (l : List Value) (h : l.length = 35) : l = (l.drop 0).take 32 ++ ((l.drop 32).take 1 ++ (l.drop 33).take 2) := by
  rw [List.drop_zero]
  have h1 : (l.drop 33).take 2 = l.drop 33 := List.take_of_length_le (by rw [List.length_drop]; omega)
  have h2 : l.drop 33 = (l.drop 32).drop 1 := by rw [List.drop_drop]
  rw [h1, h2, List.take_append_drop, List.take_append_drop]
/-- A total as it comes in. -/
theorem total_in {fuel : Nat} {cs : List Value} {x : DataW H × List MemPlace} (hf : DataW.trod enc Tryz.prog W 0 (fun _ => true) true fuel 75 cs = some x) (hreach : ∀ n ∈ x.1.weights Tryz.prog 75, n ≤ reachBytes) :
    ∃ a : To, cs = (toC a).toList ∧ ToOk a ∧ a.nm.2.length ≤ 281474976710656 := by
  obtain ⟨ys, n, _, hx, hlen, hyl, hg⟩ := DataW.trod_struct Tryz.underlying75 hf
  rw [dcT] at hlen
  have hyl3 : ys.length = 3 := hyl
  have at_ := fun (j : Nat) (f : Field) (hj : j < 3) hfj => (hg j f hfj).trans (List.getElem?_eq_getElem (show j < ys.length by omega))
  obtain ⟨hs, hl, e0⟩ := hash_in (at_ 0 _ (by omega) rfl)
  obtain ⟨s, e1, hxs, hsl⟩ := DataW.trod_string Tryz.underlying9 (at_ 1 _ (by omega) rfl)
  obtain ⟨y, e2⟩ := wide_in (at_ 2 _ (by omega) rfl)
  have hw : s.data.toList.length ∈ (ys[1].1).weights Tryz.prog 9 := by
    rw [hxs]
    simp [DataW.weights]
  have hle := hreach _ (by
    rw [hx, DataW.weights, Tryz.underlying75]
    exact DataW.weights_mem_each (j := 1) rfl (by rw [List.getElem?_map, List.getElem?_eq_getElem (by omega)]; rfl) _ hw)
  have hr : reachBytes = 140737488351232 := rfl
  have f0 : (cs.drop 0).take (Tryz.prog.cellsOf 26) = (B8 hs).toList := e0
  have f1 : (cs.drop 32).take (Tryz.prog.cellsOf 9) = [.string s] := e1
  have f2 : (cs.drop 33).take (Tryz.prog.cellsOf 48) = (wC y).toList := e2
  rw [dc26] at f0
  rw [dc9] at f1
  rw [dcW] at f2
  refine ⟨⟨(hs, s.data.toList), y⟩, ?_, ⟨hl, ?_⟩, ?_⟩
  · rw [cut35 cs hlen, f0, f1, f2]
    show _ = (B8 hs ++ (#[Value.string (txt s.data.toList), Value.int .i64 (hiS y), Value.int .u64 (loN y)] : Array Value)).toList
    rw [← txt_of s]
    simp [wC]
  · show s.data.toList.length ≤ maxLen
    have : s.data.toList.length = s.size := by simp
    omega
  · show s.data.toList.length ≤ 281474976710656
    omega
/-- Totals in a row as they come in. -/
theorem totals_in {fuel : Nat} {cs : List Value} {x : DataW H × List MemPlace} (hf : DataW.trod enc Tryz.prog W 0 (fun _ => true) true fuel 49 cs = some x) (hreach : ∀ n ∈ x.1.weights Tryz.prog 49, n ≤ reachBytes) :
    ∃ r : Tr, cs = [.slice r.pa r.l.length r.c] ∧ RowT W r.pa r.l ∧ (r.pa = none → r.c = 0) ∧ r.l.length ≤ 281474976710656 ∧ ∀ a, a ∈ r.l → a.nm.2.length ≤ 281474976710656 := by
  rcases open_slice Tryz.underlying49 hf with ⟨hcs, _⟩ | ⟨a, len, cap, m, n, D, Pl, hcs, hle, hl, hm, hmm, hx, hi⟩
  · exact ⟨⟨none, [], 0⟩, hcs, ⟨Nat.zero_le _, fun a ha => by simp at ha, fun h => absurd h (by simp)⟩, fun _ => rfl, by simp, fun a ha => by simp at ha⟩
  · simp only [if_true] at hmm
    subst hmm
    have hd : x.1 = .slice ((List.range len).map D) ((List.range (m - len)).map fun j => D (len + j)) := congrArg Prod.fst hx
    have hr : reachBytes = 140737488351232 := rfl
    have hlb : len ≤ 281474976710656 := by
      have hb : Tryz.prog.bytesOf 75 = 64 := by kernel_rfl
      have := hreach ((((List.range len).map D).length + ((List.range (m - len)).map fun j => D (len + j)).length) * 64) (by
        rw [hd, DataW.weights, Tryz.underlying49]
        simp only [hb]
        exact List.mem_cons_self)
      simp only [List.length_map, List.length_range] at this
      omega
    have each : ∀ i, i < len → ∃ q : To, (ToOk q ∧ q.nm.2.length ≤ 281474976710656) ∧ ∀ j v, (toC q)[j]? = some v → W.cell? (a.add (i * 35 + j)) = some v := by
      intro i hil
      obtain ⟨cs', hc, ht⟩ := hi i (by omega)
      rw [dcT] at hc
      obtain ⟨_, hcl, hat⟩ := World.cells?_some hc
      obtain ⟨q, rfl, hq⟩ := total_in ht (fun n hn => hreach n (by
        rw [hd, DataW.weights, Tryz.underlying49]
        exact List.mem_cons_of_mem _ (List.mem_append_left _ (weights_at hn (List.mem_map.2 ⟨i, List.mem_range.2 hil, rfl⟩)))))
      refine ⟨q, hq, fun j v hj => ?_⟩
      have hj35 : j < 35 := by
        have := (Array.getElem?_eq_some_iff.1 hj).1
        rwa [toC_size q hq.1.1] at this
      rw [← Go.Deep.add_add, hat j hj35, Array.getElem?_toList, hj]
    obtain ⟨xs, hpl, hps⟩ := list_of (⟨([], []), 0⟩ : To) (fun i q => (ToOk q ∧ q.nm.2.length ≤ 281474976710656) ∧ ∀ j v, (toC q)[j]? = some v → W.cell? (a.add (i * 35 + j)) = some v) len each
    subst hpl
    have hget : ∀ i q, xs[i]? = some q → (ToOk q ∧ q.nm.2.length ≤ 281474976710656) ∧ ∀ j v, (toC q)[j]? = some v → W.cell? (a.add (i * 35 + j)) = some v := fun i q hq => by
      have h1 := hps i (List.getElem?_eq_some_iff.1 hq).1
      rw [List.getD_eq_getElem?_getD, hq] at h1
      exact h1
    refine ⟨⟨some a, xs, m⟩, hcs, ⟨by show xs.length ≤ maxLen; omega, fun q hq => ?_, fun hpos => ?_⟩, fun e => (by cases e), hlb, fun q hq => ?_⟩
    · obtain ⟨i, hi2⟩ := List.getElem?_of_mem hq
      exact (hget i q hi2).1.1
    · obtain ⟨b, off, spot⟩ := a
      obtain ⟨hok0, h00⟩ := hget 0 _ (List.getElem?_eq_getElem hpos)
      have h0 := h00 0 _ (toC_get _ hok0.1.1 0 (by decide))
      have hspot : spot = none := by simpa [Addr.add] using World.cell?_spot h0
      subst hspot
      refine ⟨b, off, rfl, block_lt_of_cell h0, fun i q hi2 j v hj => ?_⟩
      rw [Array.getElem?_toList] at hj
      have h2 := (hget i q hi2).2 j v hj
      rw [Addr.add_lit] at h2
      rw [show off + i * 35 + j = off + (i * 35 + j) by omega]
      exact h2
    · obtain ⟨i, hi2⟩ := List.getElem?_of_mem hq
      exact (hget i q hi2).1.2
/-- Rows of totals in a row as they come in. -/
theorem open_rows {b0 : Nat} {v : Value} {d : DataW H} {p : List MemPlace} (hv : Value.okWide Tryz.prog W .any b0 58 v) (h : DataW.Trod enc Tryz.prog W 0 (fun _ => true) true 58 v d p) (hreach : ∀ n ∈ d.weights Tryz.prog 58, n ≤ reachBytes) :
    ∃ (pa : Option Addr) (rs : List Tr) (c : Nat), v = .slice pa rs.length c ∧ RowRT W pa rs ∧ ∀ r, r ∈ rs → (r.pa = none → r.c = 0) ∧ r.l.length ≤ 281474976710656 ∧ ∀ a, a ∈ r.l → ToOk a ∧ a.nm.2.length ≤ 281474976710656 := by
  obtain ⟨a0, len0, cap0, rfl⟩ := okWide_slice Tryz.underlying58 hv
  obtain ⟨fuel, hf⟩ := h
  rcases open_slice Tryz.underlying58 hf with ⟨hcs, _⟩ | ⟨a, len, cap, m, n, D, Pl, hcs, hle, hl, hm, hmm, hx, hi⟩
  · exact ⟨none, [], 0, by simpa [Value.cells] using hcs, ⟨Nat.zero_le _, fun h => absurd h (by simp)⟩, fun r hr => by simp at hr⟩
  · simp only [if_true] at hmm
    subst hmm
    have hd : d = .slice ((List.range len).map D) ((List.range (m - len)).map fun j => D (len + j)) := congrArg Prod.fst hx
    have each : ∀ i, i < len → ∃ r : Tr, (RowT W r.pa r.l ∧ (r.pa = none → r.c = 0) ∧ r.l.length ≤ 281474976710656 ∧ ∀ a, a ∈ r.l → a.nm.2.length ≤ 281474976710656) ∧ W.cell? (a.add i) = some (.slice r.pa r.l.length r.c) := by
      intro i hil
      obtain ⟨cs', hc, ht⟩ := hi i (by omega)
      rw [dcST] at hc
      obtain ⟨_, hcl, hat⟩ := World.cells?_some hc
      obtain ⟨r, rfl, hq⟩ := totals_in ht (fun n hn => hreach n (by
        rw [hd, DataW.weights, Tryz.underlying58]
        exact List.mem_cons_of_mem _ (List.mem_append_left _ (weights_at hn (List.mem_map.2 ⟨i, List.mem_range.2 hil, rfl⟩)))))
      refine ⟨r, hq, ?_⟩
      have h0 := hat 0 (by decide)
      rw [Go.Deep.add_add] at h0
      simpa using h0
    obtain ⟨xs, hpl, hps⟩ := list_of (⟨none, [], 0⟩ : Tr) (fun i r => (RowT W r.pa r.l ∧ (r.pa = none → r.c = 0) ∧ r.l.length ≤ 281474976710656 ∧ ∀ a, a ∈ r.l → a.nm.2.length ≤ 281474976710656) ∧ W.cell? (a.add i) = some (.slice r.pa r.l.length r.c)) len each
    subst hpl
    have hget : ∀ i r, xs[i]? = some r → (RowT W r.pa r.l ∧ (r.pa = none → r.c = 0) ∧ r.l.length ≤ 281474976710656 ∧ ∀ a, a ∈ r.l → a.nm.2.length ≤ 281474976710656) ∧ W.cell? (a.add i) = some (.slice r.pa r.l.length r.c) := fun i q hq => by
      have h1 := hps i (List.getElem?_eq_some_iff.1 hq).1
      rw [List.getD_eq_getElem?_getD, hq] at h1
      exact h1
    refine ⟨some a, xs, m, by simpa [Value.cells] using hcs, ⟨by omega, fun hpos => ?_⟩, fun r hr => ?_⟩
    · obtain ⟨b, off, spot⟩ := a
      have h0 := (hget 0 _ (List.getElem?_eq_getElem hpos)).2
      have hspot : spot = none := by simpa [Addr.add] using World.cell?_spot h0
      subst hspot
      refine ⟨b, off, rfl, block_lt_of_cell h0, fun i r hi2 => ⟨?_, (hget i r hi2).1.1⟩⟩
      have h2 := (hget i r hi2).2
      rw [Addr.add_lit] at h2
      exact h2
    · obtain ⟨i, hi2⟩ := List.getElem?_of_mem hr
      have h2 := (hget i r hi2).1
      exact ⟨h2.2.1, h2.2.2.1, fun a ha => ⟨h2.1.2.1 a ha, h2.2.2.2 a ha⟩⟩
/-- Numbers of 128 bits in a row as they come in. -/
theorem open_wides {b0 : Nat} {v : Value} {d : DataW H} {p : List MemPlace} (hv : Value.okWide Tryz.prog W .any b0 59 v) (h : DataW.Trod enc Tryz.prog W 0 (fun _ => true) true 59 v d p) :
    ∃ (pa : Option Addr) (ws : List (BitVec 128)) (c : Nat), v = .slice pa ws.length c ∧ RowW W pa ws := by
  obtain ⟨a0, len0, cap0, rfl⟩ := okWide_slice Tryz.underlying59 hv
  obtain ⟨fuel, hf⟩ := h
  rcases open_slice Tryz.underlying59 hf with ⟨hcs, _⟩ | ⟨a, len, cap, m, n, D, Pl, hcs, hle, hl, hm, hmm, hx, hi⟩
  · exact ⟨none, [], 0, by simpa [Value.cells] using hcs, ⟨Nat.zero_le _, fun h => absurd h (by simp)⟩⟩
  · simp only [if_true] at hmm
    subst hmm
    have each : ∀ i, i < len → ∃ q : BitVec 128, ∀ j v, (wC q)[j]? = some v → W.cell? (a.add (i * 2 + j)) = some v := by
      intro i hil
      obtain ⟨cs', hc, ht⟩ := hi i (by omega)
      rw [dcW] at hc
      obtain ⟨_, hcl, hat⟩ := World.cells?_some hc
      obtain ⟨q, rfl⟩ := wide_in ht
      refine ⟨q, fun j v hj => ?_⟩
      have hj2 : j < 2 := (Array.getElem?_eq_some_iff.1 hj).1
      rw [← Go.Deep.add_add, hat j hj2, Array.getElem?_toList, hj]
    obtain ⟨xs, hpl, hps⟩ := list_of (0 : BitVec 128) (fun i q => ∀ j v, (wC q)[j]? = some v → W.cell? (a.add (i * 2 + j)) = some v) len each
    subst hpl
    have hget : ∀ i q, xs[i]? = some q → ∀ j v, (wC q)[j]? = some v → W.cell? (a.add (i * 2 + j)) = some v := fun i q hq => by
      have h1 := hps i (List.getElem?_eq_some_iff.1 hq).1
      rw [List.getD_eq_getElem?_getD, hq] at h1
      exact h1
    refine ⟨some a, xs, m, by simpa [Value.cells] using hcs, ⟨by omega, fun hpos => ?_⟩⟩
    obtain ⟨b, off, spot⟩ := a
    have h0 := hget 0 _ (List.getElem?_eq_getElem hpos) 0 (.int .i64 (hiS xs[0])) rfl
    have hspot : spot = none := by simpa [Addr.add] using World.cell?_spot h0
    subst hspot
    refine ⟨b, off, rfl, block_lt_of_cell h0, fun i q hi2 j v hj => ?_⟩
    rw [Array.getElem?_toList] at hj
    have h2 := hget i q hi2 j v hj
    rw [Addr.add_lit] at h2
    rw [show off + i * 2 + j = off + (i * 2 + j) by omega]
    exact h2
end
end Go.Proofs.YtjngghihciimjaaGreat
