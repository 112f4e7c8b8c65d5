/-
  pack: refs, outputs, entries as they come in.
-/
import Derived.Test.YtilbbemdinpjcaaGreatJVp
import Derived.WalkKit
import Derived.ProofKit
import Derived.OpenShut
import Derived.Carry
import Derived.SizedLaws
import Derived.Deep.Slices
import Derived.ChangeSlices
import Derived.Test.YtilbbemdinpjcaaGreatJPo
import Derived.Test.YtilbbemdinpjcaaGreatJPt
namespace Go.Proofs.YtilbbemdinpjcaaGreat.P
set_option maxRecDepth 100000
open Go.ChangeShapes Go.WideShapes Go.ChangeAt Go.RowKit Go.Deep

theorem list_of {α : Type} (z : α) (P : Nat → α → Prop) : ∀ n, (∀ j, j < n → ∃ b, P j b) → ∃ l : List α, l.length = n ∧ ∀ j, j < n → P j (l.getD j z)
  | 0, _ => ⟨[], rfl, fun j hj => absurd hj (by omega)⟩
  | n + 1, h => by
    obtain ⟨l, hl, hp⟩ := list_of z P n (fun j hj => h j (by omega))
    obtain ⟨b, hb⟩ := h n (by omega)
    refine ⟨l ++ [b], by simp [hl], fun j hj => ?_⟩
    by_cases hjn : j < n
    · have := hp j hjn
      rw [List.getD_eq_getElem?_getD, List.getElem?_append_left (by omega), ← List.getD_eq_getElem?_getD]
      exact this
    · obtain rfl : j = n := by omega
      rw [List.getD_eq_getElem?_getD, List.getElem?_append_right (by omega), hl]
      simpa using hb
theorem byte_of {z : Int} (h : (Lit.int .u8 z).wf = true) : ∃ b : UInt8, z = (b.toNat : Int) := by
  have hmin : IntKind.u8.min = 0 := rfl
  have hmax : IntKind.u8.max = 255 := rfl
  simp only [Lit.wf, Bool.and_eq_true, decide_eq_true_eq] at h
  refine ⟨UInt8.ofNat z.toNat, ?_⟩
  have : (UInt8.ofNat z.toNat).toNat = z.toNat := by simp; omega
  rw [this]
  omega
theorem int_of {a : Int} (h : (Lit.int .i64 a).wf = true) : -9223372036854775808 ≤ a ∧ a < 9223372036854775808 := by
  have hmin : IntKind.i64.min = -9223372036854775808 := rfl
  have hmax : IntKind.i64.max = 9223372036854775807 := rfl
  simp only [Lit.wf, Bool.and_eq_true, decide_eq_true_eq] at h
  omega
theorem args_stay {H : Type} {enc : TypeId × Value → H} {W W' : World} {t : TypeId} {v : Value} {d : DataW H} {ps : List MemPlace} (hr : Tryz.prog.readableRec t = true) (hrow : t < Tryz.prog.types.size)
    (h : DataW.Trod enc Tryz.prog W 0 (fun _ => true) true t v d ps) (hb : Below W.heap.size W W') (hlt : ∀ x ∈ ps, x.block < W.heap.size) : DataW.Trod enc Tryz.prog W' 0 (fun b => decide (b < W.heap.size)) true t v d ps :=
  Below.trod (by kernel_rfl) hr hrow h hb hlt
theorem dc26 : Tryz.prog.cellsOf 30 = 32 := by kernel_rfl
theorem dc5 : Tryz.prog.cellsOf 5 = 1 := by kernel_rfl
theorem dc54 : Tryz.prog.cellsOf 146 = 34 := by kernel_rfl
theorem dc24 : Tryz.prog.cellsOf 27 = 2 := by kernel_rfl
theorem dc9 : Tryz.prog.cellsOf 9 = 1 := by kernel_rfl
theorem dc2 : Tryz.prog.cellsOf 2 = 1 := by kernel_rfl
theorem dc22 : Tryz.prog.cellsOf 25 = 1 := by kernel_rfl
theorem txt_of (s : ByteArray) : s = txt s.data.toList := by
  show s = ⟨s.data.toList.toArray⟩
  rw [Array.toArray_toList]
section
variable {H : Type} {enc : TypeId × Value → H} {W : World}
theorem hash_in {fuel : Nat} {cs : List Value} {x : DataW H × List MemPlace} (hf : DataW.trod enc Tryz.prog W 0 (fun _ => true) true fuel 30 cs = some x) :
    ∃ m : List UInt8, m.length = 32 ∧ cs = (B8 m).toList := by
  obtain ⟨ys, k, _, _, hlen, hyl, hy⟩ := DataW.trod_array Tryz.underlying30 hf
  rw [dc26] at hlen
  have hcell : ∀ j, j < 32 → ∃ b : UInt8, cs[j]? = some (.int .u8 b.toNat) := by
    intro j hj
    have h1 := hy j hj
    rw [dc5, Nat.mul_one] at h1
    have hone : (cs.drop j).take 1 = [cs[j]'(by omega)] := by
      rw [List.drop_eq_getElem_cons (by omega)]; rfl
    rw [hone, List.getElem?_eq_getElem (by omega)] at h1
    obtain ⟨z, hz, _, hwf⟩ := DataW.trod_int Tryz.underlying5 h1
    obtain ⟨b, hb⟩ := byte_of hwf
    refine ⟨b, ?_⟩
    rw [← hb, List.getElem?_eq_getElem (by omega), (List.cons.inj hz).1]
  obtain ⟨m, hm, hms⟩ := list_of (0 : UInt8) (fun j x => cs[j]? = some (.int .u8 x.toNat)) 32 hcell
  refine ⟨m, hm, List.ext_getElem? fun j => ?_⟩
  by_cases hj : j < 32
  · rw [hms j hj, Array.getElem?_toList, B8_get m j (by omega)]
  · rw [List.getElem?_eq_none (by omega), List.getElem?_eq_none (by rw [Array.length_toList, B8_size]; omega)]
theorem cut34 (l : List Value) (h : l.length = 34) : l = (l.drop 0).take 32 ++ ((l.drop 32).take 1 ++ (l.drop 33).take 1) := by
  rw [List.drop_zero]
  have h1 : (l.drop 33).take 1 = l.drop 33 := List.take_of_length_le (by rw [List.length_drop]; omega)
  have h2 : l.drop 33 = (l.drop 32).drop 1 := by rw [List.drop_drop]
  rw [h1, h2, List.take_append_drop, List.take_append_drop]
/-- An asset as it comes in. -/
theorem asset_in {fuel : Nat} {cs : List Value} {x : DataW H × List MemPlace} (hf : DataW.trod enc Tryz.prog W 0 (fun _ => true) true fuel 146 cs = some x) :
    ∃ a : As, cs = (asC a).toList ∧ AsOk a := by
  obtain ⟨ys, n, _, hx, hlen, hyl, hg⟩ := DataW.trod_struct Tryz.underlying146 hf
  rw [dc54] at hlen
  have hyl3 : ys.length = 3 := hyl
  have at_ := fun (j : Nat) (f : Field) (hj : j < 3) hfj => (hg j f hfj).trans (List.getElem?_eq_getElem (show j < ys.length by omega))
  obtain ⟨hs, hl, e0⟩ := hash_in (at_ 0 _ (by omega) rfl)
  obtain ⟨s, e1, _, hsl⟩ := DataW.trod_string Tryz.underlying9 (at_ 1 _ (by omega) rfl)
  obtain ⟨n2, e2, _, w2⟩ := DataW.trod_int Tryz.underlying2 (at_ 2 _ (by omega) rfl)
  obtain ⟨hlo, hhi⟩ := int_of w2
  have f0 : (cs.drop 0).take (Tryz.prog.cellsOf 30) = (B8 hs).toList := e0
  have f1 : (cs.drop 32).take (Tryz.prog.cellsOf 9) = [.string s] := e1
  have f2 : (cs.drop 33).take (Tryz.prog.cellsOf 2) = [.int .i64 n2] := e2
  rw [dc26] at f0
  rw [dc9] at f1
  rw [dc2] at f2
  refine ⟨⟨(hs, s.data.toList), n2⟩, ?_, hl, ?_, hlo, hhi⟩
  · rw [cut34 cs hlen, f0, f1, f2]
    show _ = (B8 hs ++ (#[Value.string (txt s.data.toList), Value.int .i64 n2] : Array Value)).toList
    rw [← txt_of s]
    simp
  · show s.data.toList.length ≤ maxLen
    have : s.data.toList.length = s.size := by simp
    omega
/-- Assets in a row as they come in. -/
theorem assets_in {fuel : Nat} {cs : List Value} {x : DataW H × List MemPlace} (hf : DataW.trod enc Tryz.prog W 0 (fun _ => true) true fuel 25 cs = some x) :
    ∃ (pa : Option Addr) (l : List As) (c : Nat), cs = [.slice pa l.length c] ∧ Row W pa l := by
  rcases open_slice Tryz.underlying25 hf with ⟨hcs, _⟩ | ⟨a, len, cap, m, n, D, Pl, hcs, hle, hl, hm, hmm, hx, hi⟩
  · exact ⟨none, [], 0, hcs, ⟨Nat.zero_le _, fun a ha => absurd ha (by simp), fun h => absurd h (by simp)⟩⟩
  · simp only [if_true] at hmm
    subst hmm
    have each : ∀ i, i < len → ∃ q : As, AsOk q ∧ ∀ j v, (asC q)[j]? = some v → W.cell? (a.add (i * 34 + j)) = some v := by
      intro i hil
      obtain ⟨cs', hc, ht⟩ := hi i (by omega)
      rw [dc54] at hc
      obtain ⟨_, hcl, hat⟩ := World.cells?_some hc
      obtain ⟨q, rfl, hq⟩ := asset_in ht
      refine ⟨q, hq, fun j v hj => ?_⟩
      have hj34 : j < 34 := by
        have := (Array.getElem?_eq_some_iff.1 hj).1
        rwa [asC_size q hq.1] at this
      rw [← Go.Deep.add_add, hat j hj34, Array.getElem?_toList, hj]
    obtain ⟨xs, hpl, hps⟩ := list_of (⟨([], []), 0⟩ : As) (fun i q => AsOk q ∧ ∀ j v, (asC q)[j]? = some v → W.cell? (a.add (i * 34 + j)) = some v) len each
    subst hpl
    have hget : ∀ i q, xs[i]? = some q → AsOk q ∧ ∀ j v, (asC q)[j]? = some v → W.cell? (a.add (i * 34 + j)) = some v := fun i q hq => by
      have h1 := hps i (List.getElem?_eq_some_iff.1 hq).1
      rw [List.getD_eq_getElem?_getD, hq] at h1
      exact h1
    refine ⟨some a, xs, m, hcs, by omega, fun q hq => ?_, fun hpos => ?_⟩
    · obtain ⟨i, hi2⟩ := List.getElem?_of_mem hq
      exact (hget i q hi2).1
    · obtain ⟨b, off, spot⟩ := a
      obtain ⟨hok0, h00⟩ := hget 0 _ (List.getElem?_eq_getElem hpos)
      have h0 := h00 0 _ (asC_get _ hok0.1 0 (by decide))
      have hspot : spot = none := by simpa [Addr.add] using World.cell?_spot h0
      subst hspot
      refine ⟨b, off, rfl, block_lt_of_cell h0, fun i q hi2 j v hj => ?_⟩
      rw [Array.getElem?_toList] at hj
      have h2 := (hget i q hi2).2 j v hj
      rw [Addr.add_lit] at h2
      rw [show off + i * 34 + j = off + (i * 34 + j) by omega]
      exact h2
theorem cut2 {l : List Value} (h : l.length = 2) : l = (l.drop 0).take 1 ++ (l.drop 1).take 1 := by
  match l, h with
  | [a, b], _ => rfl
/-- A bundle as it comes in. -/
theorem open_value {b0 : Nat} {v : Value} {d : DataW H} {p : List MemPlace} (hv : Value.okWide Tryz.prog W .any b0 27 v) (h : DataW.Trod enc Tryz.prog W 0 (fun _ => true) true 27 v d p) :
    ∃ x : Va, v = .agg #[.int .i64 x.coin, .slice x.pa x.l.length x.c] ∧ VaOk W x := by
  simp only [Value.okWide, Tryz.underlying27] at hv
  obtain ⟨cs, rfl, hsz, -⟩ := hv
  rw [dc24] at hsz
  obtain ⟨fuel, hf⟩ := h
  obtain ⟨ys, m, _, hx, hlen, hyl, hg⟩ := DataW.trod_struct Tryz.underlying27 hf
  have hyl2 : ys.length = 2 := hyl
  have at_ := fun (j : Nat) (f : Field) (hj : j < 2) hfj => (hg j f hfj).trans (List.getElem?_eq_getElem (show j < ys.length by omega))
  obtain ⟨n0, e0, _, w0⟩ := DataW.trod_int Tryz.underlying2 (at_ 0 _ (by omega) rfl)
  obtain ⟨pa, l, c, e1, hr⟩ := assets_in (at_ 1 _ (by omega) rfl)
  obtain ⟨hlo, hhi⟩ := int_of w0
  have f0 : (cs.toList.drop 0).take (Tryz.prog.cellsOf 2) = [.int .i64 n0] := e0
  have f1 : (cs.toList.drop 1).take (Tryz.prog.cellsOf 25) = [.slice pa l.length c] := e1
  rw [dc2] at f0
  rw [dc22] at f1
  refine ⟨⟨n0, pa, l, c⟩, ?_, hlo, hhi, hr⟩
  have h2 := cut2 (l := cs.toList) (by simpa using hsz)
  rw [f0, f1] at h2
  exact congrArg Value.agg (Array.toList_inj.1 h2)
theorem open_hash {b0 : Nat} {v : Value} {d : DataW H} {p : List MemPlace} (hv : Value.okWide Tryz.prog W .any b0 30 v) (h : DataW.Trod enc Tryz.prog W 0 (fun _ => true) true 30 v d p) :
    ∃ m : List UInt8, v = .agg (B8 m) ∧ m.length = 32 := by
  simp only [Value.okWide, Tryz.underlying30] at hv
  obtain ⟨cs, rfl, -⟩ := hv
  obtain ⟨fuel, hf⟩ := h
  obtain ⟨m, hm, e⟩ := hash_in hf
  have e2 : cs.toList = (B8 m).toList := e
  exact ⟨m, congrArg Value.agg (Array.toList_inj.1 e2), hm⟩
theorem open_text {b0 : Nat} {v : Value} {d : DataW H} {p : List MemPlace} (hv : Value.okWide Tryz.prog W .any b0 9 v) (h : DataW.Trod enc Tryz.prog W 0 (fun _ => true) true 9 v d p) : ∃ t : List UInt8, v = .string (txt t) ∧ t.length ≤ maxLen := by
  obtain ⟨s, rfl⟩ := okWide_string Tryz.underlying9 hv
  obtain ⟨fuel, hf⟩ := h
  obtain ⟨s', e, _, hsl⟩ := DataW.trod_string Tryz.underlying9 hf
  have e2 : s = s' := by simpa [Value.cells] using e
  subst e2
  refine ⟨s.data.toList, by rw [← txt_of s], ?_⟩
  have : s.data.toList.length = s.size := by simp
  omega
end
open Go.RowKit Go.Sort Go.Maps Go.ChangeShapes Go.WideShapes Go.ChangeAt Go.Deep

section
variable {H : Type} {enc : TypeId × Value → H} {W : World}
/-- A row that is nil has no room. -/
theorem assetsC_in {fuel : Nat} {cs : List Value} {x : DataW H × List MemPlace} (hf : DataW.trod enc Tryz.prog W 0 (fun _ => true) true fuel 25 cs = some x) :
    ∃ (pa : Option Addr) (l : List As) (c : Nat), cs = [.slice pa l.length c] ∧ Row W pa l ∧ (pa = none → c = 0) := by
  obtain ⟨pa, l, c, e, hr⟩ := assets_in hf
  refine ⟨pa, l, c, e, hr, fun hn => ?_⟩
  rcases open_slice Tryz.underlying25 hf with ⟨hcs, _⟩ | ⟨a, len, cap, m, n, D, Pl, hcs, _⟩
  · rw [e] at hcs
    simp only [List.cons.injEq, Value.slice.injEq, and_true] at hcs
    exact hcs.2.2
  · rw [e, hn] at hcs
    simp at hcs
/-- What is asked of a bundle that is copied. -/
def Room (v : Va) : Prop := v.pa = none → v.c = 0
theorem value_in {fuel : Nat} {cs : List Value} {x : DataW H × List MemPlace} (hf : DataW.trod enc Tryz.prog W 0 (fun _ => true) true fuel 27 cs = some x) :
    ∃ v : Va, cs = (vaC v).toList ∧ VaOk W v ∧ Room v := by
  obtain ⟨ys, m, _, hx, hlen, hyl, hg⟩ := DataW.trod_struct Tryz.underlying27 hf
  rw [dc24] at hlen
  have hyl2 : ys.length = 2 := hyl
  have at_ := fun (j : Nat) (f : Field) (hj : j < 2) hfj => (hg j f hfj).trans (List.getElem?_eq_getElem (show j < ys.length by omega))
  obtain ⟨n0, e0, _, w0⟩ := DataW.trod_int Tryz.underlying2 (at_ 0 _ (by omega) rfl)
  obtain ⟨pa, l, c, e1, hr, hc⟩ := assetsC_in (at_ 1 _ (by omega) rfl)
  obtain ⟨hlo, hhi⟩ := int_of w0
  have f0 : (cs.drop 0).take (Tryz.prog.cellsOf 2) = [.int .i64 n0] := e0
  have f1 : (cs.drop 1).take (Tryz.prog.cellsOf 25) = [.slice pa l.length c] := e1
  rw [dc2] at f0
  rw [dc22] at f1
  refine ⟨⟨n0, pa, l, c⟩, ?_, ⟨hlo, hhi, hr⟩, hc⟩
  have h2 := cut2 (l := cs) hlen
  rw [f0, f1] at h2
  exact h2
/-- A bundle as it comes in. -/
theorem open_valueC {b0 : Nat} {v : Value} {d : DataW H} {p : List MemPlace} (hv : Value.okWide Tryz.prog W .any b0 27 v) (h : DataW.Trod enc Tryz.prog W 0 (fun _ => true) true 27 v d p) :
    ∃ x : Va, v = .agg #[.int .i64 x.coin, .slice x.pa x.l.length x.c] ∧ VaOk W x ∧ Room x := by
  simp only [Value.okWide, Tryz.underlying27] at hv
  obtain ⟨cs, rfl, -⟩ := hv
  obtain ⟨fuel, hf⟩ := h
  obtain ⟨x, e, hx, hc⟩ := value_in hf
  have e2 : cs.toList = (vaC x).toList := e
  exact ⟨x, congrArg Value.agg (Array.toList_inj.1 e2), hx, hc⟩
/-- A row of assets as it comes in. -/
theorem open_assets {b0 : Nat} {v : Value} {d : DataW H} {p : List MemPlace} (hv : Value.okWide Tryz.prog W .any b0 25 v) (h : DataW.Trod enc Tryz.prog W 0 (fun _ => true) true 25 v d p) :
    ∃ (pa : Option Addr) (l : List As) (c : Nat), v = .slice pa l.length c ∧ Row W pa l ∧ (pa = none → c = 0) := by
  obtain ⟨a0, len, cap, rfl⟩ := okWide_slice Tryz.underlying25 hv
  obtain ⟨fuel, hf⟩ := h
  obtain ⟨pa, l, c, e, hr⟩ := assetsC_in hf
  exact ⟨pa, l, c, by simpa [Value.cells] using e, hr⟩
theorem open_num {b0 : Nat} {v : Value} {d : DataW H} {p : List MemPlace} (hv : Value.okWide Tryz.prog W .any b0 2 v) (h : DataW.Trod enc Tryz.prog W 0 (fun _ => true) true 2 v d p) : ∃ n : Int, v = .int .i64 n ∧ -9223372036854775808 ≤ n ∧ n < 9223372036854775808 := by
  obtain ⟨z, rfl⟩ := okWide_int Tryz.underlying2 hv
  obtain ⟨fuel, hf⟩ := h
  obtain ⟨n, e, _, w⟩ := DataW.trod_int Tryz.underlying2 hf
  obtain ⟨h1, h2⟩ := int_of w
  have e2 : z = n := by simpa [Value.cells] using e
  subst e2
  exact ⟨z, rfl, h1, h2⟩
end
end Go.Proofs.YtilbbemdinpjcaaGreat.P
namespace Go.Proofs.YtilbbemdinpjcaaGreat.P
set_option maxRecDepth 100000
open Go.ChangeShapes Go.WideShapes Go.ChangeAt Go.RowKit Go.Deep

section
variable {H : Type} {enc : TypeId × Value → H} {W : World}
theorem weights_in {P : Program} {e : TypeId} {d : DataW H} {n : Nat} (hn : n ∈ d.weights P e) : ∀ {l : List (DataW H)}, d ∈ l → n ∈ DataW.weightsAll P e l
  | [], h => by cases h
  | x :: l, h => by
    unfold DataW.weightsAll
    rcases List.mem_cons.1 h with rfl | h
    · exact List.mem_append_left _ hn
    · exact List.mem_append_right _ (weights_in hn h)
theorem cut5 (l : List Value) (h : l.length = 5) : l = (l.drop 0).take 1 ++ ((l.drop 1).take 1 ++ ((l.drop 2).take 1 ++ ((l.drop 3).take 1 ++ (l.drop 4).take 1))) := by
  match l, h with
  | [a, b, c, d, e], _ => rfl
theorem word_of {a : Int} (h : (Lit.int .u64 a).wf = true) : ∃ n : Nat, a = (n : Int) ∧ n < 18446744073709551616 := by
  have hmin : IntKind.u64.min = 0 := rfl
  have hmax : IntKind.u64.max = 18446744073709551615 := rfl
  simp only [Lit.wf, Bool.and_eq_true, decide_eq_true_eq] at h
  exact ⟨a.toNat, by omega, by omega⟩
theorem pc_node : Tryz.prog.cellsOf 72 = 5 := by kernel_rfl
theorem pb_node : Tryz.prog.bytesOf 72 = 48 := by kernel_rfl
theorem pc_kind : Tryz.prog.cellsOf 67 = 1 := by kernel_rfl
theorem pc_u64 : Tryz.prog.cellsOf 69 = 1 := by kernel_rfl
theorem pc_int : Tryz.prog.cellsOf 3 = 1 := by kernel_rfl
/-- A node as it comes in. -/
theorem node_in {fuel : Nat} {cs : List Value} {x : DataW H × List MemPlace} (hf : DataW.trod enc Tryz.prog W 0 (fun _ => true) true fuel 72 cs = some x) (hreach : ∀ n ∈ x.1.weights Tryz.prog 72, n ≤ reachBytes) :
    ∃ n : T.Nd, cs = n.cells.toList ∧ NdIn n := by
  obtain ⟨ys, m, _, hx, hlen, hyl, hg⟩ := DataW.trod_struct Tryz.underlying72 hf
  rw [pc_node] at hlen
  have hyl5 : ys.length = 5 := hyl
  have at_ := fun (j : Nat) (f : Field) (hj : j < 5) hfj => (hg j f hfj).trans (List.getElem?_eq_getElem (show j < ys.length by omega))
  obtain ⟨n0, e0, _, w0⟩ := DataW.trod_int Tryz.underlying67 (at_ 0 _ (by omega) rfl)
  obtain ⟨n1, e1, _, w1⟩ := DataW.trod_int Tryz.underlying2 (at_ 1 _ (by omega) rfl)
  obtain ⟨n2, e2, _, w2⟩ := DataW.trod_int Tryz.underlying69 (at_ 2 _ (by omega) rfl)
  obtain ⟨s, e3, ed, hsl⟩ := DataW.trod_string Tryz.underlying9 (at_ 3 _ (by omega) rfl)
  obtain ⟨n4, e4, _, w4⟩ := DataW.trod_int Tryz.underlying3 (at_ 4 _ (by omega) rfl)
  obtain ⟨m2, rfl, hm2⟩ := word_of w2
  have hxl : s.size ≤ 140737488355328 := by
    have hw : s.data.toList.length ∈ (ys[3].1).weights Tryz.prog 9 := by
      rw [ed, DataW.weights]
      exact List.mem_cons_self
    have := hreach _ (by
      rw [hx, DataW.weights, Tryz.underlying72]
      exact DataW.weights_mem_each (j := 3) rfl (by rw [List.getElem?_map, List.getElem?_eq_getElem (by omega)]; rfl) _ hw)
    have hr : reachBytes = 140737488351232 := rfl
    rw [hr] at this
    have e : s.data.toList.length = s.size := by simp
    omega
  refine ⟨⟨n0, n1, m2, s, n4⟩, ?_, ⟨int_of w0, int_of w1, hm2, hxl, int_of w4⟩⟩
  have f0 : (cs.drop 0).take (Tryz.prog.cellsOf 67) = [.int .i64 n0] := e0
  have f1 : (cs.drop 1).take (Tryz.prog.cellsOf 2) = [.int .i64 n1] := e1
  have f2 : (cs.drop 2).take (Tryz.prog.cellsOf 69) = [.int .u64 m2] := e2
  have f3 : (cs.drop 3).take (Tryz.prog.cellsOf 9) = [.string s] := e3
  have f4 : (cs.drop 4).take (Tryz.prog.cellsOf 3) = [.int .i64 n4] := e4
  rw [pc_kind] at f0
  rw [dc2] at f1
  rw [pc_u64] at f2
  rw [dc9] at f3
  rw [pc_int] at f4
  rw [cut5 cs hlen, f0, f1, f2, f3, f4]
  rfl
/-- The nodes of a term as they come in. -/
structure NsIn (W : World) (a : Option Addr) (ns : List T.Nd) (c : Nat) : Prop where
  raw : T.TRaw W a ns
  ins : ∀ x ∈ ns, NdIn x
  len : ns.length ≤ 140737488355328
  cap : ns.length ≤ c
  room : a = none → c = 0
theorem nodes_in {fuel : Nat} {cs : List Value} {x : DataW H × List MemPlace} (hf : DataW.trod enc Tryz.prog W 0 (fun _ => true) true fuel 22 cs = some x) (hreach : ∀ n ∈ x.1.weights Tryz.prog 22, n ≤ reachBytes) :
    ∃ (a : Option Addr) (ns : List T.Nd) (c : Nat), cs = [.slice a ns.length c] ∧ NsIn W a ns c := by
  rcases open_slice Tryz.underlying22 hf with ⟨hcs, _⟩ | ⟨a, len, cap, m, n, D, Pl, hcs, _, hl, hm, hmm, hx, hi⟩
  · exact ⟨none, [], 0, hcs, ⟨fun h => absurd h (by simp), fun x hx => absurd hx (by simp), by simp, by simp, fun _ => rfl⟩⟩
  · simp only [if_true] at hmm
    subst hmm
    have hd : x.1 = .slice ((List.range len).map D) ((List.range (m - len)).map fun j => D (len + j)) := by rw [hx]
    have hr : reachBytes = 140737488351232 := rfl
    have hcapr : m * 48 ≤ 140737488351232 := by
      have := hreach ((((List.range len).map D).length + ((List.range (m - len)).map fun j => D (len + j)).length) * 48) (by
        rw [hd, DataW.weights, Tryz.underlying22]
        simp only [pb_node]
        exact List.mem_cons_self)
      simp only [List.length_map, List.length_range] at this
      rw [hr] at this
      have e : len + (m - len) = m := by omega
      rw [e] at this
      exact this
    have each : ∀ i, i < len → ∃ q : T.Nd, NdIn q ∧ ∀ j v, q.cells[j]? = some v → W.cell? (a.add (i * 5 + j)) = some v := by
      intro i hil
      obtain ⟨cs', hc, ht⟩ := hi i (by omega)
      rw [pc_node] at hc
      obtain ⟨_, hcl, hat⟩ := World.cells?_some hc
      obtain ⟨q, rfl, h1⟩ := node_in ht (fun n hn => hreach n (by
        rw [hd, DataW.weights, Tryz.underlying22]
        exact List.mem_cons_of_mem _ (List.mem_append_left _ (weights_in hn (List.mem_map.2 ⟨i, List.mem_range.2 hil, rfl⟩)))))
      refine ⟨q, h1, fun j v hj => ?_⟩
      have hj5 : j < 5 := by
        have := (Array.getElem?_eq_some_iff.1 hj).1
        simpa [T.Nd.cells] using this
      rw [← Go.Deep.add_add, hat j hj5, Array.getElem?_toList, hj]
    obtain ⟨xs, hpl, hps⟩ := list_of (⟨0, 0, 0, ⟨#[]⟩, 0⟩ : T.Nd) (fun i q => NdIn q ∧ ∀ j v, q.cells[j]? = some v → W.cell? (a.add (i * 5 + j)) = some v) len each
    subst hpl
    have hget : ∀ i q, xs[i]? = some q → NdIn q ∧ ∀ j v, q.cells[j]? = some v → W.cell? (a.add (i * 5 + j)) = some v := fun i q hq => by
      have h1 := hps i (List.getElem?_eq_some_iff.1 hq).1
      rw [List.getD_eq_getElem?_getD, hq] at h1
      exact h1
    refine ⟨some a, xs, m, hcs, ⟨fun hpos => ?_, fun x hx => ?_, by omega, hl, fun h => by cases h⟩⟩
    · obtain ⟨b, off, spot⟩ := a
      have h0 := (hget 0 _ (List.getElem?_eq_getElem hpos)).2 0 _ rfl
      have hspot : spot = none := by simpa [Addr.add] using World.cell?_spot h0
      subst hspot
      refine ⟨b, off, rfl, block_lt_of_cell h0, fun i hi2 j v hj => ?_⟩
      have h2 := (hget i _ (List.getElem?_eq_getElem hi2)).2 j v hj
      rw [Addr.add_lit] at h2
      rw [show off + i * 5 + j = off + (i * 5 + j) by omega]
      exact h2
    · obtain ⟨i, hi2⟩ := List.getElem?_of_mem hx
      exact (hget i x hi2).1
end
end Go.Proofs.YtilbbemdinpjcaaGreat.P
