/-
  wanted: the same, at the document's own writer.
-/
import Derived.Test.YtilbbemdinpjcaaGreatJQg
import Derived.Test.YtilbbemdinpjcaaGreatJVe
import Derived.Test.YtilbbemdinpjcaaGreatJVt
import Derived.Test.YtilbbemdinpjcaaGreatJTFWithin
import Derived.Deep.QuietTactic
import Derived.BigQuiet
import Derived.Test.YtilbbemdinpjcaaGreatJWRef2
import Derived.Test.YtilbbemdinpjcaaGreatJPp
namespace Go.Proofs.YtilbbemdinpjcaaGreat.P
set_option maxRecDepth 100000
open Go.ChangeShapes Go.WideShapes Go.ChangeAt Go.RowKit Go.Deep

section
variable {H : Type} {enc : TypeId × Value → H} {W : World}
theorem pc_term : Tryz.prog.cellsOf 24 = 1 := by kernel_rfl
theorem pc_nodes : Tryz.prog.cellsOf 22 = 1 := by kernel_rfl
theorem pc_addr : Tryz.prog.cellsOf 32 = 33 := by kernel_rfl
theorem pc_out : Tryz.prog.cellsOf 35 = 69 := by kernel_rfl
theorem pc_ref : Tryz.prog.cellsOf 37 = 33 := by kernel_rfl
theorem pc_en : Tryz.prog.cellsOf 81 = 102 := by kernel_rfl
theorem pc_datum : Tryz.prog.cellsOf 33 = 1 := by kernel_rfl
theorem pc_bool : Tryz.prog.cellsOf 4 = 1 := by kernel_rfl
theorem wt_agg {t : TypeId} {fs : Array Field} (ht : Tryz.prog.underlying t = some (.struct fs)) {ys : List (DataW H × List MemPlace)} {x : DataW H × List MemPlace} {q : List MemPlace} (hx : x = (.agg (ys.map Prod.fst), q)) (j : Nat) (f : Field) (hf : fs[j]? = some f) (hj : j < ys.length) (h : ∀ n ∈ x.1.weights Tryz.prog t, n ≤ reachBytes) : ∀ n ∈ (ys[j].1).weights Tryz.prog f.type, n ≤ reachBytes := fun n hn => h n (by
  rw [hx, DataW.weights, ht]
  exact DataW.weights_mem_each (j := j) (by rw [List.getElem?_map, Array.getElem?_toList, hf]; rfl) (by rw [List.getElem?_map, List.getElem?_eq_getElem hj]; rfl) _ hn)
theorem term_in {fuel : Nat} {cs : List Value} {x : DataW H × List MemPlace} (hf : DataW.trod enc Tryz.prog W 0 (fun _ => true) true fuel 24 cs = some x) (hreach : ∀ n ∈ x.1.weights Tryz.prog 24, n ≤ reachBytes) :
    ∃ (a : Option Addr) (ns : List T.Nd) (c : Nat), cs = [.slice a ns.length c] ∧ NsIn W a ns c := by
  obtain ⟨ys, m, _, hx, hlen, hyl, hg⟩ := DataW.trod_struct Tryz.underlying24 hf
  rw [pc_term] at hlen
  have hyl1 : ys.length = 1 := hyl
  have h0 := (hg 0 _ rfl).trans (List.getElem?_eq_getElem (show 0 < ys.length by omega))
  obtain ⟨a, ns, c, e0, hn⟩ := nodes_in h0 (wt_agg Tryz.underlying24 hx 0 _ rfl (by omega) hreach)
  have e1 : (cs.drop 0).take (Tryz.prog.cellsOf 22) = [.slice a ns.length c] := e0
  rw [pc_nodes, List.drop_zero, List.take_of_length_le (by omega)] at e1
  exact ⟨a, ns, c, e1, hn⟩
theorem cut_two {l : List Value} (a b : Nat) (h : l.length = a + b) : l = (l.drop 0).take a ++ (l.drop a).take b := by
  rw [List.drop_zero, List.take_of_length_le (l := l.drop a) (by rw [List.length_drop]; omega), List.take_append_drop]
theorem ref_in {fuel : Nat} {cs : List Value} {x : DataW H × List MemPlace} (hf : DataW.trod enc Tryz.prog W 0 (fun _ => true) true fuel 37 cs = some x) :
    ∃ r : Rf, cs = (refC r).toList ∧ RfOk r := by
  obtain ⟨ys, m, _, hx, hlen, hyl, hg⟩ := DataW.trod_struct Tryz.underlying37 hf
  rw [pc_ref] at hlen
  have hyl2 : ys.length = 2 := hyl
  have at_ := fun (j : Nat) (f : Field) (hj : j < 2) hfj => (hg j f hfj).trans (List.getElem?_eq_getElem (show j < ys.length by omega))
  obtain ⟨hs, hl, e0⟩ := hash_in (at_ 0 _ (by omega) rfl)
  obtain ⟨n1, e1, _, w1⟩ := DataW.trod_int Tryz.underlying3 (at_ 1 _ (by omega) rfl)
  obtain ⟨hlo, hhi⟩ := int_of w1
  have f0 : (cs.drop 0).take (Tryz.prog.cellsOf 30) = (B8 hs).toList := e0
  have f1 : (cs.drop 32).take (Tryz.prog.cellsOf 3) = [.int .i64 n1] := e1
  rw [dc26] at f0
  rw [pc_int] at f1
  refine ⟨⟨hs, n1⟩, ?_, hl, hlo, hhi⟩
  rw [cut_two 32 1 hlen, f0, f1]
  simp [refC]
theorem addr_in {fuel : Nat} {cs : List Value} {x : DataW H × List MemPlace} (hf : DataW.trod enc Tryz.prog W 0 (fun _ => true) true fuel 32 cs = some x) :
    ∃ (b : Bool) (ah : List UInt8), cs = (adC b ah).toList ∧ ah.length = 32 := by
  obtain ⟨ys, m, _, hx, hlen, hyl, hg⟩ := DataW.trod_struct Tryz.underlying32 hf
  rw [pc_addr] at hlen
  have hyl2 : ys.length = 2 := hyl
  have at_ := fun (j : Nat) (f : Field) (hj : j < 2) hfj => (hg j f hfj).trans (List.getElem?_eq_getElem (show j < ys.length by omega))
  obtain ⟨b, e0, _⟩ := DataW.trod_bool Tryz.underlying4 (at_ 0 _ (by omega) rfl)
  obtain ⟨hs, hl, e1⟩ := hash_in (at_ 1 _ (by omega) rfl)
  have f0 : (cs.drop 0).take (Tryz.prog.cellsOf 4) = [.bool b] := e0
  have f1 : (cs.drop 1).take (Tryz.prog.cellsOf 30) = (B8 hs).toList := e1
  rw [pc_bool] at f0
  rw [dc26] at f1
  refine ⟨b, hs, ?_, hl⟩
  rw [cut_two 1 32 hlen, f0, f1]
  simp [adC]
theorem cut_out {l : List Value} (h : l.length = 69) : l = (l.drop 0).take 33 ++ ((l.drop 33).take 2 ++ ((l.drop 35).take 1 ++ ((l.drop 36).take 32 ++ (l.drop 68).take 1))) := by
  have h5 : (l.drop 68).take 1 = (l.drop 36).drop 32 := by rw [List.drop_drop, List.take_of_length_le (by rw [List.length_drop]; omega)]
  have h4 : l.drop 36 = (l.drop 35).drop 1 := by rw [List.drop_drop]
  have h3 : l.drop 35 = (l.drop 33).drop 2 := by rw [List.drop_drop]
  rw [h5, List.take_append_drop, h4, List.take_append_drop, h3, List.take_append_drop, List.drop_zero, List.take_append_drop]
/-- An output as it comes in. -/
theorem out_in {fuel : Nat} {cs : List Value} {x : DataW H × List MemPlace} (hf : DataW.trod enc Tryz.prog W 0 (fun _ => true) true fuel 35 cs = some x) (hreach : ∀ n ∈ x.1.weights Tryz.prog 35, n ≤ reachBytes) :
    ∃ o : Ot, cs = (otC o).toList ∧ OtRaw W o ∧ (∀ y ∈ o.ns, NdIn y) ∧ I64 o.kind ∧ Room o.v ∧ (o.tp = none → o.tc = 0) := by
  obtain ⟨ys, m, _, hx, hlen, hyl, hg⟩ := DataW.trod_struct Tryz.underlying35 hf
  rw [pc_out] at hlen
  have hyl5 : ys.length = 5 := hyl
  have at_ := fun (j : Nat) (f : Field) (hj : j < 5) hfj => (hg j f hfj).trans (List.getElem?_eq_getElem (show j < ys.length by omega))
  obtain ⟨b, ah, e0, hah⟩ := addr_in (at_ 0 _ (by omega) rfl)
  obtain ⟨v, e1, hv, hrm⟩ := value_in (at_ 1 _ (by omega) rfl)
  obtain ⟨kd, e2, _, w2⟩ := DataW.trod_int Tryz.underlying33 (at_ 2 _ (by omega) rfl)
  obtain ⟨dh, hdh, e3⟩ := hash_in (at_ 3 _ (by omega) rfl)
  obtain ⟨a, ns, c, e4, hn⟩ := term_in (at_ 4 _ (by omega) rfl) (wt_agg Tryz.underlying35 hx 4 _ rfl (by omega) hreach)
  have f0 : (cs.drop 0).take (Tryz.prog.cellsOf 32) = (adC b ah).toList := e0
  have f1 : (cs.drop 33).take (Tryz.prog.cellsOf 27) = (vaC v).toList := e1
  have f2 : (cs.drop 35).take (Tryz.prog.cellsOf 33) = [.int .i64 kd] := e2
  have f3 : (cs.drop 36).take (Tryz.prog.cellsOf 30) = (B8 dh).toList := e3
  have f4 : (cs.drop 68).take (Tryz.prog.cellsOf 24) = [.slice a ns.length c] := e4
  rw [pc_addr] at f0
  rw [dc24] at f1
  rw [pc_datum] at f2
  rw [dc26] at f3
  rw [pc_term] at f4
  refine ⟨⟨b, ah, v, kd, dh, a, ns, c⟩, ?_, ⟨hah, hv, hdh, hn.raw, fun y hy => (hn.ins y hy).txt, hn.len, fun y hy => by have := (hn.ins y hy).kids.2; omega, hn.cap⟩, hn.ins, int_of w2, hrm, hn.room⟩
  rw [cut_out hlen, f0, f1, f2, f3, f4]
  simp [otC, adC, vaC, vC]
/-- What more is known of an entry that comes in. -/
structure EnIn (e : En) : Prop where
  ins : ∀ y ∈ e.o.ns, NdIn y
  kind : I64 e.o.kind
  room : Room e.o.v
  troom : e.o.tp = none → e.o.tc = 0
theorem entry_in {fuel : Nat} {cs : List Value} {x : DataW H × List MemPlace} (hf : DataW.trod enc Tryz.prog W 0 (fun _ => true) true fuel 81 cs = some x) (hreach : ∀ n ∈ x.1.weights Tryz.prog 81, n ≤ reachBytes) :
    ∃ e : En, cs = (enC e).toList ∧ EnRaw W e ∧ EnIn e := by
  obtain ⟨ys, m, _, hx, hlen, hyl, hg⟩ := DataW.trod_struct Tryz.underlying81 hf
  rw [pc_en] at hlen
  have hyl2 : ys.length = 2 := hyl
  have at_ := fun (j : Nat) (f : Field) (hj : j < 2) hfj => (hg j f hfj).trans (List.getElem?_eq_getElem (show j < ys.length by omega))
  obtain ⟨r, e0, hr⟩ := ref_in (at_ 0 _ (by omega) rfl)
  obtain ⟨o, e1, ho, h1, h2, h3, h4⟩ := out_in (at_ 1 _ (by omega) rfl) (wt_agg Tryz.underlying81 hx 1 _ rfl (by omega) hreach)
  have f0 : (cs.drop 0).take (Tryz.prog.cellsOf 37) = (refC r).toList := e0
  have f1 : (cs.drop 33).take (Tryz.prog.cellsOf 35) = (otC o).toList := e1
  rw [pc_ref] at f0
  rw [pc_out] at f1
  refine ⟨⟨r, o⟩, ?_, ⟨hr, ho⟩, ⟨h1, h2, h3, h4⟩⟩
  rw [cut_two 33 69 hlen, f0, f1]
  simp [enC]
theorem entries_in {fuel : Nat} {cs : List Value} {x : DataW H × List MemPlace} (hf : DataW.trod enc Tryz.prog W 0 (fun _ => true) true fuel 38 cs = some x) (hreach : ∀ n ∈ x.1.weights Tryz.prog 38, n ≤ reachBytes) :
    ∃ (pa : Option Addr) (es : List En) (c : Nat), cs = [.slice pa es.length c] ∧ RowER W pa es ∧ (∀ e ∈ es, EnIn e) ∧ es.length ≤ c ∧ (pa = none → c = 0) := by
  rcases open_slice Tryz.underlying38 hf with ⟨hcs, _⟩ | ⟨a, len, cap, m, n, D, Pl, hcs, hle, hl, hm, hmm, hx, hi⟩
  · exact ⟨none, [], 0, hcs, ⟨Nat.zero_le _, fun h => absurd h (by simp)⟩, fun e he => by simp at he, Nat.le_refl _, fun _ => rfl⟩
  · simp only [if_true] at hmm
    subst hmm
    have hd : x.1 = .slice ((List.range len).map D) ((List.range (m - len)).map fun j => D (len + j)) := by rw [hx]
    have each : ∀ i, i < len → ∃ q : En, (EnRaw W q ∧ EnIn q) ∧ ∀ j v, (enC q)[j]? = some v → W.cell? (a.add (i * 102 + j)) = some v := by
      intro i hil
      obtain ⟨cs', hc, ht⟩ := hi i (by omega)
      rw [pc_en] at hc
      obtain ⟨_, hcl, hat⟩ := World.cells?_some hc
      obtain ⟨q, rfl, hq, hin⟩ := entry_in ht (fun n hn => hreach n (by
        rw [hd, DataW.weights, Tryz.underlying38]
        exact List.mem_cons_of_mem _ (List.mem_append_left _ (weights_in hn (List.mem_map.2 ⟨i, List.mem_range.2 hil, rfl⟩)))))
      refine ⟨q, ⟨hq, hin⟩, fun j v hj => ?_⟩
      have hj2 : j < 102 := by
        have := (Array.getElem?_eq_some_iff.1 hj).1
        unfold enC at this
        rw [Array.size_append, refC_size _ hq.r.1, otC_size _ hq.o.ah hq.o.dh] at this
        exact this
      rw [← Go.Deep.add_add, hat j hj2, Array.getElem?_toList, hj]
    obtain ⟨xs, hpl, hps⟩ := list_of (⟨⟨[], 0⟩, ⟨false, [], ⟨0, none, [], 0⟩, 0, [], none, [], 0⟩⟩ : En) (fun i q => (EnRaw W q ∧ EnIn q) ∧ ∀ j v, (enC q)[j]? = some v → W.cell? (a.add (i * 102 + j)) = some v) len each
    subst hpl
    have hget : ∀ i q, xs[i]? = some q → (EnRaw W q ∧ EnIn q) ∧ ∀ j v, (enC q)[j]? = some v → W.cell? (a.add (i * 102 + j)) = some v := fun i q hq => by
      have h1 := hps i (List.getElem?_eq_some_iff.1 hq).1
      rw [List.getD_eq_getElem?_getD, hq] at h1
      exact h1
    refine ⟨some a, xs, m, hcs, ⟨by omega, fun hpos => ?_⟩, fun q hq => ?_, hl, fun e => by cases e⟩
    · obtain ⟨b, off, spot⟩ := a
      obtain ⟨⟨hok0, _⟩, h00⟩ := hget 0 _ (List.getElem?_eq_getElem hpos)
      have h0 := h00 0 _ (show (enC xs[0])[0]? = some (.int .u8 (xs[0].r.tx.getD 0 0).toNat) by unfold enC; rw [Array.getElem?_append_left (by rw [refC_size _ hok0.r.1]; omega)]; exact refC_get _ hok0.r.1 0 (by omega))
      have hspot : spot = none := by simpa [Addr.add] using World.cell?_spot h0
      subst hspot
      refine ⟨b, off, rfl, block_lt_of_cell h0, fun i q hi2 => ⟨fun j v hj => ?_, (hget i q hi2).1.1⟩⟩
      rw [Array.getElem?_toList] at hj
      have h2 := (hget i q hi2).2 j v hj
      rw [Addr.add_lit] at h2
      rw [show off + i * 102 + j = off + (i * 102 + j) by omega]
      exact h2
    · obtain ⟨i, hi2⟩ := List.getElem?_of_mem hq
      exact (hget i q hi2).1.2
/-- A ref as it comes in. -/
theorem open_ref {b0 : Nat} {v : Value} {d : DataW H} {p : List MemPlace} (hv : Value.okWide Tryz.prog W .any b0 37 v) (h : DataW.Trod enc Tryz.prog W 0 (fun _ => true) true 37 v d p) :
    ∃ r : Rf, v = .agg (refC r) ∧ RfOk r := by
  simp only [Value.okWide, Tryz.underlying37] at hv
  obtain ⟨cs, rfl, -⟩ := hv
  obtain ⟨fuel, hf⟩ := h
  obtain ⟨r, e, hr⟩ := ref_in hf
  have e2 : cs.toList = (refC r).toList := e
  exact ⟨r, congrArg Value.agg (Array.toList_inj.1 e2), hr⟩
/-- Entries in a row as they come in. -/
theorem open_entries {b0 : Nat} {v : Value} {d : DataW H} {p : List MemPlace} (hv : Value.okWide Tryz.prog W .any b0 38 v) (h : DataW.Trod enc Tryz.prog W 0 (fun _ => true) true 38 v d p) (hreach : ∀ n ∈ d.weights Tryz.prog 38, n ≤ reachBytes) :
    ∃ (pa : Option Addr) (es : List En) (c : Nat), v = .slice pa es.length c ∧ RowER W pa es ∧ (∀ e ∈ es, EnIn e) ∧ es.length ≤ c ∧ (pa = none → c = 0) := by
  obtain ⟨a0, len, cap, rfl⟩ := okWide_slice Tryz.underlying38 hv
  obtain ⟨fuel, hf⟩ := h
  obtain ⟨pa, es, c, e, hr⟩ := entries_in hf hreach
  exact ⟨pa, es, c, by simpa [Value.cells] using e, hr⟩
end
end Go.Proofs.YtilbbemdinpjcaaGreat.P
namespace Go.Proofs.YtilbbemdinpjcaaGreat.P
set_option maxRecDepth 100000
open Go.RowKit Go.Sort

theorem keyed_ref : Tryz.prog.keyTypeAt 5 37 = true := by kernel_rfl
theorem formed_ref (r : Rf) (h : r.tx.length = 32) : (Value.agg (refC r)).formed Tryz.prog 37 = true := by
  obtain ⟨p, x⟩ := r
  obtain ⟨a0, a1, a2, a3, a4, a5, a6, a7, a8, a9, a10, a11, a12, a13, a14, a15, a16, a17, a18, a19, a20, a21, a22, a23, a24, a25, a26, a27, a28, a29, a30, a31, rfl⟩ := list32 p h
  kernel_rfl
theorem lit_int (d : Nat) (x : Int) (h1 : -9223372036854775808 ≤ x) (h2 : x < 9223372036854775808) : Tryz.prog.keyLits (d + 1) 3 [.int .i64 x] = some [Lit.int .i64 x] := by
  have hmin : IntKind.i64.min = -9223372036854775808 := rfl
  have hmax : IntKind.i64.max = 9223372036854775807 := rfl
  have hw : (Lit.int .i64 x).wf = true := by
    simp only [Lit.wf, Bool.and_eq_true, decide_eq_true_eq]
    omega
  unfold Program.keyLits
  simp [Tryz.underlying3, hw]
theorem lits_ref (d : Nat) (r : Rf) (h : RfOk r) : Tryz.prog.keyLits (d + 3) 37 (refC r).toList = some ((r.tx.map fun b => Lit.int .u8 b.toNat) ++ [Lit.int .i64 r.place]) := by
  have hl : (B8 r.tx).toList.length = 32 := by rw [Array.length_toList, B8_size, h.1]
  have e : (refC r).toList = (B8 r.tx).toList ++ [.int .i64 r.place] := by simp [refC]
  rw [e]
  unfold Program.keyLits
  simp only [Tryz.underlying37, pc_ref, List.length_append, hl, List.length_cons, List.length_nil]
  rw [if_pos ⟨trivial, by kernel_rfl⟩]
  simp only [List.mapM_cons, List.mapM_nil, dc26, pc_int, List.drop_zero, List.take_left' hl, List.drop_left' hl]
  rw [litsH d r.tx h.1]
  simp [lit_int (d + 1) r.place h.2.1 h.2.2]
theorem litR_inj {a b : Rf} (h : (a.tx.map fun b => Lit.int .u8 b.toNat) ++ [Lit.int .i64 a.place] = (b.tx.map fun b => Lit.int .u8 b.toNat) ++ [Lit.int .i64 b.place]) : a = b := by
  obtain ⟨h1, h2⟩ := List.append_inj' h rfl
  obtain ⟨ta, pa⟩ := a
  obtain ⟨tb, pb⟩ := b
  simp only at h1 h2
  have e1 : ta = tb := map_u8_inj h1
  have e2 : pa = pb := by simpa using h2
  rw [e1, e2]
instance : DecidableEq Rf := fun a b => decidable_of_iff (a.tx = b.tx ∧ a.place = b.place) ⟨fun ⟨h, k⟩ => by cases a; cases b; simp only at h k; rw [h, k], fun h => by rw [h]; exact ⟨rfl, rfl⟩⟩
theorem eq_ref (w : World) (a b : Rf) (ha : RfOk a) (hb : RfOk b) : (binOp .eql 37 (.agg (refC a)) (.agg (refC b))).run Tryz.prog w = .ok (.bool (decide (a = b))) w := by
  obtain ⟨r, hr, hi⟩ := run_equalIn_deep 9995 5 37 keyed_ref w 5 5 (.agg (refC a)) (.agg (refC b)) _ _ (formed_ref a ha.1) (formed_ref b hb.1) (lits_ref 2 a ha) (lits_ref 2 b hb)
  have e : r = decide (a = b) := by
    rw [Bool.eq_iff_iff, decide_eq_true_iff, hi]
    exact ⟨litR_inj, fun e => by rw [e]⟩
  subst e
  have hr2 : (Op.equalIn 10000 37 (.agg (refC a)) (.agg (refC b))).run Tryz.prog w = .ok (decide (a = b)) w := hr
  have he : (Op.equal 37 (.agg (refC a)) (.agg (refC b))).run Tryz.prog w = .ok (decide (a = b)) w := hr2
  simp [binOp, go_sem, he]
end Go.Proofs.YtilbbemdinpjcaaGreat.P
namespace Go.Proofs.YtilbbemdinpjcaaGreat.P
set_option maxRecDepth 100000
open Go.RowKit

theorem ot_ad {W : World} {q : Nat} {o : Ot} {t : TypeId} (h : Lies W q (otC o) t) : W.rangeAt q 0 (adC o.prog o.ah).toList := fun j v hj => by
  rw [Nat.zero_add]
  refine h.cell j ?_
  rw [Array.getElem?_toList] at hj
  have hlt := (Array.getElem?_eq_some_iff.1 hj).1
  have e : otC o = adC o.prog o.ah ++ (#[.int .i64 o.v.coin, .slice o.v.pa o.v.l.length o.v.c, .int .i64 o.kind] ++ B8 o.dh ++ #[.slice o.tp o.ns.length o.tc]) := by
    unfold otC adC
    simp only [Array.append_assoc]
  rw [e, Array.getElem?_append_left hlt]
  exact hj
set_option maxHeartbeats 8000000 in
theorem putterOutput_any (w : World) {B g : Nat} {v : Value} {st : Option (List UInt8)} (o : Ot) (hT : Stays g w v fun W => OtOk W o) (hk : o.kind = 2 → ∀ x ∈ o.ns, 1 ≤ x.kind ∧ x.kind ≤ 6) (hi : ∀ x ∈ o.ns, NdIn x) (h : WrO W.WSt w B g v st) (hx : sz st + 123 * cntO o ≤ 700000) :
    Calls Tryz.prog 139 #[.agg #[.pointer (some ⟨g, 0, none⟩)], .agg (otC o)] w (PutR W.WSt w B g v (outS st o)) := by
  have hah := hT.now.ah
  have hdh := hT.now.dh
  have hpol : ∀ a ∈ o.v.l, a.nm.1.length = 32 := fun a ha => (hT.now.v.2.2.2.1 a ha).1
  obtain ⟨ov, hov⟩ : ∃ x, x = otC o := ⟨_, rfl⟩
  rw [← hov]
  have hB := bx_of h ov 35
  obtain ⟨s1, hs1⟩ : ∃ s, s = W.stepB (W.stepB st [if o.prog then 1 else 0]) o.ah := ⟨_, rfl⟩
  have hz1 : sz s1 ≤ sz st + 33 := by
    have k1 := sz_B st [if o.prog then 1 else 0]
    have k2 := sz_B (W.stepB st [if o.prog then 1 else 0]) o.ah
    rw [List.length_singleton] at k1
    rw [hs1]
    omega
  have hO : outS st o = if o.kind = 1 then W.stepB (W.stepN (valS s1 o.v) (W.low64 o.kind) 1) o.dh else if o.kind = 2 then termS (W.stepN (valS s1 o.v) (W.low64 o.kind) 1) o.ns else W.stepN (valS s1 o.v) (W.low64 o.kind) 1 := by rw [hs1]; rfl
  have hz2 := sz_val o.v s1 hpol
  have hz3 := sz_N (valS s1 o.v) (W.low64 o.kind) 1
  have hc1 : 1 ≤ cntV o.v := by unfold cntV; omega
  have hcO : cntO o = cntV o.v + T.cost o.ns := rfl
  have HA : Hid (∀ W0, WrO W.WSt W0 B g v st → Calls Tryz.prog 211 #[.agg #[.pointer (some ⟨g, 0, none⟩)], .agg (adC o.prog o.ah)] W0 (PutR W.WSt W0 B g v s1)) := Lib.hid fun W0 hw => by rw [hs1]; exact putterAddress_any W0 o.prog o.ah hah hw (by omega)
  have HI := Lib.hid (And.intro (show (Tryz.prog.info? 32).map (·.size) = some (adC o.prog o.ah).toList.length by rw [Array.length_toList]; unfold adC; rw [Array.size_append, B8_size, hah]; exact info_address) (show (Tryz.prog.info? 30).map (·.size) = some (B8 o.dh).toList.length by rw [Array.length_toList, B8_size, hdh]; exact info_hashP))
  have H := Lib.hid (And.intro hov (And.intro hT (And.intro hk (And.intro hi (And.intro h (And.intro (show sz s1 + 57 * cntV o.v ≤ 699990 ∧ sz (W.stepN (valS s1 o.v) (W.low64 o.kind) 1) + 26 * T.cost o.ns ≤ 700000 by omega) hO))))))
  have HLL := Lib.hid (And.intro hah hdh)
  obtain ⟨s9, hs9⟩ : ∃ s, s = outS st o := ⟨_, rfl⟩
  rw [← hs9] at H ⊢
  clear hov hT hk hi h hx hah hdh hpol hs1 hz1 hz2 hz3 hc1 hcO hO hs9
  obtain ⟨W0, HW⟩ : ∃ W0, (w.alloc (.cells #[.pointer (some ⟨g, 0, none⟩)] 170)).alloc (.cells ov 35) = W0 := ⟨_, rfl⟩
  go_enter Tryz.func139, Tryz.ntmps139
  go_upto_region 1 with fail
  rw [HW] at hB
  clear HW
  obtain ⟨p, hp⟩ : ∃ p, p = w.heap.size := ⟨_, rfl⟩
  obtain ⟨q, hq⟩ : ∃ q, q = w.heap.size + 1 := ⟨_, rfl⟩
  rw [← hq, ← hp] at hB ⊢
  clear hp hq
  have c0 := hB.lp.cell 0 (v := .pointer (some ⟨g, 0, none⟩)) rfl
  have HR := Lib.hid (ot_ad (show Lies W0 q (otC o) _ by rw [← H.out.1]; exact hB.lq))
  have HC := Lib.hid (HA.out W0 (H.out.2.2.2.2.1.belowW hB.b))
  have HB := Lib.hid hB
  clear hB HA
  go_wp2_with (first
    | (at_builtin; fail)
    | (refine wpList_load_mid rfl 32 _ rfl q 0 rfl (adC o.prog o.ah).toList _ HR.out Tryz.underlying32 rfl HI.out.1 ?_))
  refine HC.out.mono ?_
  rintro e W1 ⟨rfl, u1, hw1, hk1⟩
  obtain ⟨l1, l2⟩ := HB.out.on hk1
  have hl1 := (Lk.of_below HB.out.b (v := v) (g := g)).trans hk1
  have hat := lies_at (show Lies W1 q (otC o) _ by rw [← H.out.1]; exact l2) HLL.out.1 HLL.out.2
  have c0 := l1.cell 0 (v := .pointer (some ⟨g, 0, none⟩)) rfl
  have c33 := hat.coin
  have c34 := hat.assets
  simp only [Nat.zero_add] at c33 c34
  have HC1 := Lib.hid (putterValue_any W1 o.v ((H.out.2.1.on hl1).imp fun W hW => hW.v.2.2) hw1 (by have := H.out.2.2.2.2.2.1; omega))
  unfold vaC vC at HC1
  have HL := Lib.hid (And.intro hk1 hl1)
  clear hw1 hk1 l1 l2 hl1 HC hat HR
  go_wp2_with fail
  refine HC1.out.mono ?_
  rintro e W2 ⟨rfl, u2, hw2, hk2⟩
  have hl2 := HL.out.1.trans hk2
  obtain ⟨l1, l2⟩ := HB.out.on hl2
  have hat := lies_at (show Lies W2 q (otC o) _ by rw [← H.out.1]; exact l2) HLL.out.1 HLL.out.2
  have c0 := l1.cell 0 (v := .pointer (some ⟨g, 0, none⟩)) rfl
  have c35 := hat.kind
  simp only [Nat.zero_add] at c35
  have hz2 := sz_val o.v s1 (fun a ha => (H.out.2.1.now.v.2.2.2.1 a ha).1)
  have HC2 := Lib.hid (wU8 W2 o.kind hw2 (by have := H.out.2.2.2.2.2.1; omega))
  have HL2 := Lib.hid (And.intro hl2 (HL.out.2.trans hk2))
  clear hw2 hk2 l1 l2 hl2 HC1 hat c33 c34 hz2
  go_wp2_with fail
  refine HC2.out.mono ?_
  rintro e W3 ⟨rfl, u3, hw3, hk3⟩
  have hl3 := HL2.out.1.trans hk3
  have hf3 := HL2.out.2.trans hk3
  obtain ⟨l1, l2⟩ := HB.out.on hl3
  have hat := lies_at (show Lies W3 q (otC o) _ by rw [← H.out.1]; exact l2) HLL.out.1 HLL.out.2
  have c0 := l1.cell 0 (v := .pointer (some ⟨g, 0, none⟩)) rfl
  have c35 := hat.kind
  have c68 := hat.term
  have HD := Lib.hid hat.dh
  simp only [Nat.zero_add] at c35 c68
  have HW3 := Lib.hid (And.intro hw3 hf3)
  obtain ⟨kd, hkd⟩ : ∃ k, k = o.kind := ⟨_, rfl⟩
  rw [← hkd] at c35
  have HKD := Lib.hid hkd
  clear hw3 hk3 l1 l2 hl3 hf3 HC2 hat hkd
  by_cases k1 : kd = 1
  · have HC3 := Lib.hid (wHash W3 o.dh HLL.out.2 HW3.out.1 (by have := H.out.2.2.2.2.2.1; omega))
    have HS := Lib.hid (show s9 = W.stepB (W.stepN (valS s1 o.v) (W.low64 o.kind) 1) o.dh by have := H.out.2.2.2.2.2.2; rw [this, if_pos (by rw [← HKD.out]; exact k1)])
    go_wp2_with (first
      | (at_builtin; fail)
      | (refine wpList_load_mid rfl 30 _ rfl q 36 rfl (B8 o.dh).toList _ HD.out Tryz.underlying30 rfl HI.out.2 ?_))
    refine HC3.out.mono ?_
    rintro e W4 hr
    obtain ⟨rfl, hr⟩ := hr
    have HE := Lib.hid hr
    clear hr c0 c35 c68 HC3
    go_wp2_with fail
    go_end0
    rw [HS.out]
    exact PutR.on HW3.out.2 ⟨rfl, HE.out⟩
  · by_cases k2 : kd = 2
    · have HC3 := Lib.hid (putterTerm_any W3 o.tp o.tc o.ns ((H.out.2.1.on HW3.out.2).imp fun W hW => hW.t) (H.out.2.2.1 (by rw [← HKD.out]; exact k2)) H.out.2.2.2.1 HW3.out.1 H.out.2.2.2.2.2.1.2)
      have HS := Lib.hid (show s9 = termS (W.stepN (valS s1 o.v) (W.low64 o.kind) 1) o.ns by have := H.out.2.2.2.2.2.2; rw [this, if_neg (by rw [← HKD.out]; exact k1), if_pos (by rw [← HKD.out]; exact k2)])
      go_wp2_with fail
      refine HC3.out.mono ?_
      rintro e W4 hr
      obtain ⟨rfl, hr⟩ := hr
      have HE := Lib.hid hr
      clear hr c0 c35 c68 HC3
      go_wp2_with fail
      go_end0
      rw [HS.out]
      exact PutR.on HW3.out.2 ⟨rfl, HE.out⟩
    · have HS := Lib.hid (show s9 = W.stepN (valS s1 o.v) (W.low64 o.kind) 1 by have := H.out.2.2.2.2.2.2; rw [this, if_neg (by rw [← HKD.out]; exact k1), if_neg (by rw [← HKD.out]; exact k2)])
      go_wp2_with fail
      go_end0
      rw [HS.out]
      exact PutR.end_ HW3.out.1 HW3.out.2
end Go.Proofs.YtilbbemdinpjcaaGreat.P
namespace Go.Proofs.YtilbbemdinpjcaaGreat.P
set_option maxRecDepth 100000
open Go.RowKit Go.Sort

/-- Two rows that are the same up to some place, and differ there. -/
theorem cmpB_at : ∀ (a b : List UInt8) (k : Nat), (∀ j, j < k → a.getD j 0 = b.getD j 0) → k < a.length → k < b.length → a.getD k 0 ≠ b.getD k 0 → cmpB a b ≠ 0 ∧ (cmpB a b < 0 ↔ (a.getD k 0).toNat < (b.getD k 0).toNat)
  | [], _, _, _, h, _, _ => by simp at h
  | _ :: _, [], _, _, _, h, _ => by simp at h
  | x :: a, y :: b, 0, _, _, _, hne => by
    have hne : x ≠ y := by simpa using hne
    have hx : (x :: a).getD 0 0 = x := rfl
    have hy : (y :: b).getD 0 0 = y := rfl
    rw [hx, hy]
    unfold cmpB
    rcases u8_tri x y with h | h | h
    · rw [if_pos h]
      exact ⟨by decide, fun _ => UInt8.lt_iff_toNat_lt.1 h, fun _ => by decide⟩
    · exact absurd h hne
    · rw [if_neg (u8_asymm h), if_pos h]
      exact ⟨by decide, fun e => absurd e (by decide), fun e => absurd (UInt8.lt_iff_toNat_lt.2 e) (u8_asymm h)⟩
  | x :: a, y :: b, k + 1, hj, h1, h2, hne => by
    have h0 : x = y := by simpa using hj 0 (by omega)
    subst h0
    have ih := cmpB_at a b k (fun j hjk => by simpa using hj (j + 1) (by omega)) (by simpa using h1) (by simpa using h2) (by simpa using hne)
    unfold cmpB
    rw [if_neg (u8_irrefl x), if_neg (u8_irrefl x)]
    simpa using ih
theorem same_all {a b : List UInt8} (ha : a.length = 32) (hb : b.length = 32) (h : ∀ j, j < 32 → a.getD j 0 = b.getD j 0) : a = b := by
  apply List.ext_getElem (by omega)
  intro i h1 h2
  have := h i (by omega)
  simpa [List.getD_eq_getElem?_getD, h1, h2] using this
set_option maxHeartbeats 2000000 in
theorem refLess_any (w : World) (a b : Rf) (ha : a.tx.length = 32) (hb : b.tx.length = 32) :
    Calls Tryz.prog 22 #[.agg (refC a), .agg (refC b)] w fun e w' => e = .returned (.bool (lessR a b)) ∧ Below w.heap.size w w' := by
  obtain ⟨va, hva⟩ : ∃ v, v = refC a := ⟨_, rfl⟩
  obtain ⟨vb, hvb⟩ : ∃ v, v = refC b := ⟨_, rfl⟩
  rw [← hva, ← hvb]
  have HA := Lib.hid (And.intro hva (And.intro hvb (And.intro ha hb)))
  clear hva hvb ha hb
  go_enter Tryz.func22, Tryz.ntmps22
  go_upto_region 1 with fail
  have hl1 : Lies ((w.alloc (.cells va 37)).alloc (.cells vb 37)) w.heap.size va 37 := (Lies.new _ _ _).alloc _
  have hl2 : Lies ((w.alloc (.cells va 37)).alloc (.cells vb 37)) (w.heap.size + 1) vb 37 := by
    have := Lies.new (w.alloc (.cells va 37)) vb 37
    simpa using this
  have hb0 : Below w.heap.size w ((w.alloc (.cells va 37)).alloc (.cells vb 37)) := ((Below.refl _ _).alloc (Nat.le_refl _) _).alloc (by simp) _
  generalize (w.alloc (.cells va 37)).alloc (.cells vb 37) = W0 at hl1 hl2 hb0 ⊢
  obtain ⟨g1, hg1⟩ : ∃ g, g = w.heap.size := ⟨_, rfl⟩
  obtain ⟨g2, hg2⟩ : ∃ g, g = w.heap.size + 1 := ⟨_, rfl⟩
  rw [← hg2] at hl2 ⊢
  rw [← hg1] at hl1 ⊢
  have HK : Hid (∀ V, Below W0.heap.size W0 V → (∀ j, j < 32 → V.cell? ⟨g1, j, none⟩ = some (.int .u8 (a.tx.getD j 0).toNat) ∧ V.cell? ⟨g2, j, none⟩ = some (.int .u8 (b.tx.getD j 0).toNat)) ∧ V.cell? ⟨g1, 32, none⟩ = some (.int .i64 a.place) ∧ V.cell? ⟨g2, 32, none⟩ = some (.int .i64 b.place)) := Lib.hid fun V hV => by
    have h1 := hl1.below hV hl1.lt
    have h2 := hl2.below hV hl2.lt
    rw [HA.out.1] at h1
    rw [HA.out.2.1] at h2
    exact ⟨fun j hj => ⟨h1.cell j (refC_get a HA.out.2.2.1 j hj), h2.cell j (refC_get b HA.out.2.2.2 j hj)⟩, h1.cell 32 (refC_place a HA.out.2.2.1), h2.cell 32 (refC_place b HA.out.2.2.2)⟩
  have HB := Lib.hid hb0
  clear hl1 hl2 hb0 hg1 hg2
  go_wp2_with fail
  go_loopw [5] (fun i W => ∃ k : Nat, k ≤ 32 ∧ i = .int .i64 k ∧ Below W0.heap.size W0 W ∧ ∀ j, j < k → a.tx.getD j 0 = b.tx.getD j 0) (fun i _ => 32 - (intOf i).toNat)
  case atStart => exact ⟨0, Nat.zero_le _, rfl, Below.refl _ _, fun j hj => absurd hj (by omega)⟩
  case round =>
    obtain ⟨k, hk, rfl, hbr, hall⟩ := hrel
    have m0 : (0 : Int) ≤ (k : Int) := by omega
    by_cases hlt : k < 32
    · have m1 : (k : Int) < 32 := by omega
      obtain ⟨x, hx⟩ : ∃ x, x = (a.tx.getD k 0).toNat := ⟨_, rfl⟩
      obtain ⟨y, hy⟩ : ∃ y, y = (b.tx.getD k 0).toNat := ⟨_, rfl⟩
      have HC : Hid (∀ V, Below W0.heap.size W0 V → V.cell? ⟨g1, k, none⟩ = some (.int .u8 x) ∧ V.cell? ⟨g2, k, none⟩ = some (.int .u8 y)) := Lib.hid fun V hV => by rw [hx, hy]; exact (HK.out V hV).1 k hlt
      have HR := Lib.hid (And.intro hbr (And.intro hlt (And.intro hall (And.intro hx hy))))
      clear hlt hall hx hy hk
      go_upto_region 4 with fail
      refine wp_region_held (S := Below W0.heap.size W0) (by kernel_rfl) ?_
      change wpAnyH _ _ _ _ _ 9 _ _ (World.drew wr)
      have hcur : Below W0.heap.size W0 wr.drew := hbr.drew
      refine tk 0 (.int .i64 (k : Int)) 10 rfl rfl hcur ?_
      refine tk 1 (.pointer (some ⟨g1, 0, none⟩)) 11 rfl rfl hcur ?_
      refine tk 2 (.pointer (some ⟨g1, k, none⟩)) 12 rfl rfl hcur ?_ (by intro w' hS'; unfold execOp; simp [go_sem, m0, m1])
      refine tk 3 (.int .u8 x) 13 rfl rfl hcur ?_ (by intro w' hS'; have c0 := (HC.out w' hS').1; unfold execOp; simp [go_sem, c0])
      refine tk 4 (.int .i64 (k : Int)) 14 rfl rfl hcur ?_
      refine tk 5 (.pointer (some ⟨g2, 0, none⟩)) 15 rfl rfl hcur ?_
      refine tk 6 (.pointer (some ⟨g2, k, none⟩)) 16 rfl rfl hcur ?_ (by intro w' hS'; unfold execOp; simp [go_sem, m0, m1])
      refine tk 7 (.int .u8 y) 17 rfl rfl hcur ?_ (by intro w' hS'; have c0 := (HC.out w' hS').2; unfold execOp; simp [go_sem, c0])
      refine tk 8 (.bool ((x : Int) != (y : Int))) 18 rfl rfl hcur ?_
      refine held_done (by kernel_rfl) ?_
      generalize wr.drew = W1 at hcur ⊢
      have H1 := Lib.hid hcur
      by_cases hxy : x = y
      · have hb1 : ((x : Int) != (y : Int)) = false := by rw [hxy]; simp
        rw [hb1]
        have HX := Lib.hid hxy
        clear hxy hb1 hcur hbr
        go_wp2_with fail
        refine ⟨⟨k + 1, HR.out.2.1, by go_num, H1.out, fun j hj => ?_⟩, ?_⟩
        · by_cases e : j = k
          · rw [e]
            have h1 := HX.out
            rw [HR.out.2.2.2.1, HR.out.2.2.2.2] at h1
            exact UInt8.toNat_inj.1 h1
          · exact HR.out.2.2.1 j (by omega)
        · have := HR.out.2.1; simp [intOf]; omega
      · have hb1 : ((x : Int) != (y : Int)) = true := by rw [bne_iff_ne]; omega
        rw [hb1]
        have HX := Lib.hid hxy
        clear hxy hb1 hbr
        go_upto_region 5 with fail
        refine wp_region_held (S := Below W0.heap.size W0) (by kernel_rfl) ?_
        change wpAnyH _ _ _ _ _ 10 _ _ (World.drew W1)
        have hcur : Below W0.heap.size W0 W1.drew := hcur.drew
        refine tk 0 (.int .i64 (k : Int)) 19 rfl rfl hcur ?_
        refine tk 1 (.pointer (some ⟨g1, 0, none⟩)) 20 rfl rfl hcur ?_
        refine tk 2 (.pointer (some ⟨g1, k, none⟩)) 21 rfl rfl hcur ?_ (by intro w' hS'; unfold execOp; simp [go_sem, m0, m1])
        refine tk 3 (.int .u8 x) 22 rfl rfl hcur ?_ (by intro w' hS'; have c0 := (HC.out w' hS').1; unfold execOp; simp [go_sem, c0])
        refine tk 4 (.int .i64 (k : Int)) 23 rfl rfl hcur ?_
        refine tk 5 (.pointer (some ⟨g2, 0, none⟩)) 24 rfl rfl hcur ?_
        refine tk 6 (.pointer (some ⟨g2, k, none⟩)) 25 rfl rfl hcur ?_ (by intro w' hS'; unfold execOp; simp [go_sem, m0, m1])
        refine tk 7 (.int .u8 y) 26 rfl rfl hcur ?_ (by intro w' hS'; have c0 := (HC.out w' hS').2; unfold execOp; simp [go_sem, c0])
        refine tk 8 (.bool (decide ((x : Int) < (y : Int)))) 27 rfl rfl hcur ?_
        refine tk 9 (.bool (decide ((x : Int) < (y : Int)))) 4 rfl rfl hcur ?_
        refine held_done (by kernel_rfl) ?_
        have H2 := Lib.hid hcur
        clear hcur
        go_wp2_with fail
        go_ret
        refine ⟨?_, HB.out.trans (H2.out.mono HB.out.size)⟩
        have h1 := cmpB_at a.tx b.tx k HR.out.2.2.1 (by have := HA.out.2.2.1; have := HR.out.2.1; omega) (by have := HA.out.2.2.2; have := HR.out.2.1; omega) (fun e => HX.out (by rw [HR.out.2.2.2.1, HR.out.2.2.2.2, e]))
        rw [← HR.out.2.2.2.1, ← HR.out.2.2.2.2] at h1
        have e1 : lessR a b = decide ((x : Int) < (y : Int)) := by
          unfold lessR cR
          rw [if_neg h1.1, Bool.eq_iff_iff, decide_eq_true_iff, decide_eq_true_iff, h1.2]
          omega
        rw [e1]
        rfl
    · have m1 : ¬ (k : Int) < 32 := by omega
      obtain rfl : k = 32 := by omega
      have heq := same_all HA.out.2.2.1 HA.out.2.2.2 hall
      have c0 := (HK.out wr hbr).2
      obtain ⟨p, hp⟩ : ∃ p, p = a.place := ⟨_, rfl⟩
      obtain ⟨q, hq⟩ : ∃ q, q = b.place := ⟨_, rfl⟩
      rw [← hp, ← hq] at c0
      obtain ⟨c1, c2⟩ := c0
      have e1 : lessR a b = decide (p < q) := by
        unfold lessR cR sgnI
        rw [heq, if_pos (cmpB_self _), ← hp, ← hq]
        by_cases h1 : p < q
        · rw [if_pos h1]; simp [h1]
        · by_cases h2 : q < p
          · rw [if_neg h1, if_pos h2]; simp [h1]
          · rw [if_neg h1, if_neg h2]; simp [h1]
      have HE := Lib.hid (And.intro hbr e1)
      clear hbr hall hlt hk heq hp hq e1
      go_wp2_with fail
      go_ret
      exact ⟨by rw [HE.out.2]; rfl, HB.out.trans (HE.out.1.mono HB.out.size)⟩
theorem rrightRef_any (w : World) (r : Rf) (h : r.tx.length = 32) :
    Calls Tryz.prog 69 #[.agg (refC r)] w fun e w' => e = .returned (.bool (rightRefB r)) ∧ Below w.heap.size w w' := by
  obtain ⟨v, hv⟩ : ∃ v, v = refC r := ⟨_, rfl⟩
  have hc : (Lies (w.alloc (.cells v 37)) w.heap.size v 37) := Lies.new _ _ _
  have hb0 : Below w.heap.size w (w.alloc (.cells v 37)) := (Below.refl _ _).alloc (Nat.le_refl _) _
  have c32 := hc.cell 32 (by rw [hv]; exact refC_place r h)
  rw [← hv]
  have HB := Lib.hid hb0
  obtain ⟨p, hp⟩ : ∃ p, p = r.place := ⟨_, rfl⟩
  rw [← hp] at c32
  have HP := Lib.hid hp
  clear hc hb0 hv h hp
  go_enter Tryz.func69, Tryz.ntmps69
  go_upto_region 1 with fail
  generalize w.alloc (.cells v 37) = W0 at HB c32 ⊢
  by_cases h0 : 0 ≤ p
  · go_wp2_with fail
    go_ret
    exact ⟨by unfold rightRefB; rw [← HP.out]; simp [h0], HB.out⟩
  · go_wp2_with fail
    go_ret
    exact ⟨by unfold rightRefB; rw [← HP.out]; simp [show ¬ 0 ≤ p by omega], HB.out⟩
end Go.Proofs.YtilbbemdinpjcaaGreat.P
namespace Go.Proofs.YtilbbemdinpjcaaGreat.P
set_option maxRecDepth 100000
open Go.RowKit

theorem have_kinds {o : Ot} (h : haveB o = true) (h2 : o.kind = 2) : ∀ x ∈ o.ns, 1 ≤ x.kind ∧ x.kind ≤ 6 := by
  unfold haveB at h
  rw [if_neg (by omega), if_neg (by omega), if_pos h2, Bool.and_eq_true] at h
  exact right_kinds h.2
theorem outs_kinds {o : Ot} (h : rightOB o = true) (h2 : o.kind = 2) : ∀ x ∈ o.ns, 1 ≤ x.kind ∧ x.kind ≤ 6 := by
  unfold rightOB at h
  rw [Bool.and_eq_true] at h
  exact have_kinds h.2 h2
set_option maxHeartbeats 4000000 in
theorem putOutputG_any (w : World) {B g : Nat} {v : Value} {st : Option (List UInt8)} (o : Ot) (hT : Stays g w v fun W => OtOk W o) (hi : ∀ x ∈ o.ns, NdIn x) (h : WrO W.WSt w B g v st) (hx : sz st + 123 * cntO o ≤ 700000) :
    Calls Tryz.prog 138 #[.pointer (some ⟨g, 0, none⟩), .agg (otC o), .func (Fn.func 13) #[] #[], .func (Fn.func 139) #[] #[]] w (PutR W.WSt w B g v (if rightOB o then outS st o else none)) := by
  have hf := hT.now
  obtain ⟨r, hrb⟩ : ∃ r, r = rightOB o := ⟨_, rfl⟩
  obtain ⟨s2, hs2⟩ : ∃ s, s = outS st o := ⟨_, rfl⟩
  obtain ⟨s3, hs3⟩ : ∃ s, s = (if r then s2 else none) := ⟨_, rfl⟩
  obtain ⟨ov, hov⟩ : ∃ y, y = otC o := ⟨_, rfl⟩
  have hf1 := T.callK 13 Tryz.f13 Tryz.func13 (by kernel_rfl) (by kernel_rfl)
  have hf2 := T.callK 139 Tryz.f139 Tryz.func139 (by kernel_rfl) (by kernel_rfl)
  have HR : Hid (∀ V, Below w.heap.size w V → Calls Tryz.prog 13 #[.agg ov] V fun e w' => e = .returned (.bool r) ∧ Below V.heap.size V w') := Lib.hid fun V hb => by
    have hf := (hT.on (Lk.of_below hb)).now
    rw [hrb, hov]; exact rightOutput_any V o hf
  have HC : Hid (r = true → ∀ V, Below w.heap.size w V → Calls Tryz.prog 139 #[.agg #[.pointer (some ⟨g, 0, none⟩)], .agg ov] V (PutR W.WSt V B g v s2)) := Lib.hid fun hr V hb => by
    have hS := hT.on (Lk.of_below hb)
    have hw := h.belowW hb
    rw [hrb] at hr
    rw [hs2, hov]; exact putterOutput_any V o hS (outs_kinds hr) hi hw hx
  have hi1 : (Tryz.prog.info? 35).map (·.size) = some ov.size := by rw [hov, otC_size o hf.ah hf.dh]; exact info_output
  have hL := Lies.new w ov 35
  have hb : Below w.heap.size w (w.alloc (.cells ov 35)) := (Below.refl _ _).alloc (Nat.le_refl _) _
  have HI := Lib.hid hi1
  rw [← hrb, ← hs2, ← hs3, ← hov]
  have H := Lib.hid (And.intro h hs3)
  clear hT h hx hf hrb hs2 hs3 hov hi1 hi
  obtain ⟨W0, HW⟩ : ∃ W0, w.alloc (.cells ov 35) = W0 := ⟨_, rfl⟩
  go_enter Tryz.func138, Tryz.ntmps138
  go_upto_region 1 with fail
  rw [HW] at hL hb
  clear HW
  obtain ⟨q, hq⟩ : ∃ q, q = w.heap.size := ⟨_, rfl⟩
  rw [← hq] at hL ⊢
  clear hq
  have HB := Lib.hid (And.intro hb hL)
  clear hb hL
  go_wp2_with (first
    | (at_builtin; fail)
    | (refine wpList_load_row rfl 35 _ rfl q rfl 35 ov (0, 0) _ (HB.out.2) Tryz.underlying35 rfl HI.out ?_))
  refine (HR.out _ HB.out.1).mono ?_
  rintro e W1 ⟨rfl, hb1⟩
  have hbw := HB.out.1.trans (hb1.mono HB.out.1.size)
  have HL1 := Lib.hid (HB.out.2.below hb1 HB.out.2.lt)
  have HW1 := Lib.hid hbw
  clear hb1 hbw HR
  cases r with
  | true =>
    have HCC := Lib.hid (HC.out rfl W1 HW1.out)
    clear HC
    go_wp2_with (first
      | (at_builtin; fail)
      | (refine wpList_load_row rfl 35 _ rfl q rfl 35 ov (0, 0) _ (HL1.out) Tryz.underlying35 rfl HI.out ?_))
    refine HCC.out.mono ?_
    rintro e W2 hr2
    obtain ⟨rfl, hr2⟩ := hr2
    have HE := Lib.hid hr2
    clear hr2 HCC
    go_wp2_with fail
    first
      | go_end0
      | refine bodyPost_ret (results_none rfl _ _ _) rfl ?_
    rw [H.out.2]
    exact PutR.after HW1.out ⟨rfl, HE.out⟩
  | false =>
    have HCC := Lib.hid (wSpoil W1 (H.out.1.belowW HW1.out))
    clear HC
    go_wp2_with fail
    refine HCC.out.mono ?_
    rintro e W2 hr2
    obtain ⟨rfl, hr2⟩ := hr2
    have HE := Lib.hid hr2
    clear hr2 HCC
    go_wp2_with fail
    first
      | go_end0
      | refine bodyPost_ret (results_none rfl _ _ _) rfl ?_
    rw [H.out.2]
    exact PutR.after HW1.out ⟨rfl, HE.out⟩
set_option maxHeartbeats 4000000 in
theorem putOutput_any (w : World) {B g : Nat} {v : Value} {st : Option (List UInt8)} (o : Ot) (hT : Stays g w v fun W => OtOk W o) (hi : ∀ x ∈ o.ns, NdIn x) (h : WrO W.WSt w B g v st) (hx : sz st + 123 * cntO o ≤ 700000) :
    Calls Tryz.prog 74 #[.pointer (some ⟨g, 0, none⟩), .agg (otC o)] w (PutR W.WSt w B g v (if rightOB o then outS st o else none)) := by
  have hf := hT.now
  obtain ⟨s3, hs3⟩ : ∃ s, s = (if rightOB o then outS st o else none) := ⟨_, rfl⟩
  obtain ⟨ov, hov⟩ : ∃ y, y = otC o := ⟨_, rfl⟩
  have HC : Hid (∀ V, Below w.heap.size w V → Calls Tryz.prog 138 #[.pointer (some ⟨g, 0, none⟩), .agg ov, .func (Fn.func 13) #[] #[], .func (Fn.func 139) #[] #[]] V (PutR W.WSt V B g v s3)) := Lib.hid fun V hb => by
    rw [hs3, hov]; exact putOutputG_any V o (hT.on (Lk.of_below hb)) hi (h.belowW hb) hx
  have hi1 : (Tryz.prog.info? 35).map (·.size) = some ov.size := by rw [hov, otC_size o hf.ah hf.dh]; exact info_output
  have hL := Lies.new w ov 35
  have hb : Below w.heap.size w (w.alloc (.cells ov 35)) := (Below.refl _ _).alloc (Nat.le_refl _) _
  have HI := Lib.hid hi1
  rw [← hs3, ← hov]
  clear hT h hx hf hs3 hov hi1 hi
  obtain ⟨W0, HW⟩ : ∃ W0, w.alloc (.cells ov 35) = W0 := ⟨_, rfl⟩
  go_enter Tryz.func74, Tryz.ntmps74
  go_upto_region 1 with fail
  rw [HW] at hL hb
  clear HW
  obtain ⟨q, hq⟩ : ∃ q, q = w.heap.size := ⟨_, rfl⟩
  rw [← hq] at hL ⊢
  clear hq
  have HB := Lib.hid (And.intro hb hL)
  clear hb hL
  go_wp2_with (first
    | (at_builtin; fail)
    | (refine wpList_load_row rfl 35 _ rfl q rfl 35 ov (0, 0) _ (HB.out.2) Tryz.underlying35 rfl HI.out ?_))
  refine (HC.out _ HB.out.1).mono ?_
  rintro e W2 hr2
  obtain ⟨rfl, hr2⟩ := hr2
  have HE := Lib.hid hr2
  clear hr2 HC
  go_wp2_with fail
  go_end0
  exact PutR.after HB.out.1 ⟨rfl, HE.out⟩
set_option maxHeartbeats 4000000 in
theorem putValueG_any (w : World) {B g : Nat} {v : Value} {st : Option (List UInt8)} (x : Va) (hT : Stays g w v fun W => Row W x.pa x.l) (h : WrO W.WSt w B g v st) (hx : sz st + 57 * cntV x ≤ 700000) :
    Calls Tryz.prog 183 #[.pointer (some ⟨g, 0, none⟩), .agg (vaC x), .func (Fn.func 63) #[] #[], .func (Fn.func 184) #[] #[]] w (PutR W.WSt w B g v (if rightV x then valS st x else none)) := by
  have hf := hT.now
  obtain ⟨r, hrb⟩ : ∃ r, r = rightV x := ⟨_, rfl⟩
  obtain ⟨s2, hs2⟩ : ∃ s, s = valS st x := ⟨_, rfl⟩
  obtain ⟨s3, hs3⟩ : ∃ s, s = (if r then s2 else none) := ⟨_, rfl⟩
  obtain ⟨ov, hov⟩ : ∃ y, y = vaC x := ⟨_, rfl⟩
  have hf1 := T.callK 63 Tryz.f63 Tryz.func63 (by kernel_rfl) (by kernel_rfl)
  have hf2 := T.callK 184 Tryz.f184 Tryz.func184 (by kernel_rfl) (by kernel_rfl)
  have HR : Hid (∀ V, Below w.heap.size w V → Calls Tryz.prog 63 #[.agg ov] V fun e w' => e = .returned (.bool r) ∧ Below V.heap.size V w') := Lib.hid fun V hb => by
    have hf := (hT.on (Lk.of_below hb)).now
    rw [hrb, hov]; exact right_any V x.coin x.pa x.l x.c hf
  have HC : Hid (r = true → ∀ V, Below w.heap.size w V → Calls Tryz.prog 184 #[.agg #[.pointer (some ⟨g, 0, none⟩)], .agg ov] V (PutR W.WSt V B g v s2)) := Lib.hid fun hr V hb => by
    have hS := hT.on (Lk.of_below hb)
    have hw := h.belowW hb
    rw [hrb] at hr
    rw [hs2, hov]; exact putterValue_any V x hS hw hx
  have hi1 : (Tryz.prog.info? 27).map (·.size) = some ov.size := by rw [hov, vaC_size x]; exact info_value
  have hL := Lies.new w ov 27
  have hb : Below w.heap.size w (w.alloc (.cells ov 27)) := (Below.refl _ _).alloc (Nat.le_refl _) _
  have HI := Lib.hid hi1
  rw [← hrb, ← hs2, ← hs3, ← hov]
  have H := Lib.hid (And.intro h hs3)
  clear hT h hx hf hrb hs2 hs3 hov hi1
  obtain ⟨W0, HW⟩ : ∃ W0, w.alloc (.cells ov 27) = W0 := ⟨_, rfl⟩
  go_enter Tryz.func183, Tryz.ntmps183
  go_upto_region 1 with fail
  rw [HW] at hL hb
  clear HW
  obtain ⟨q, hq⟩ : ∃ q, q = w.heap.size := ⟨_, rfl⟩
  rw [← hq] at hL ⊢
  clear hq
  have HB := Lib.hid (And.intro hb hL)
  clear hb hL
  go_wp2_with (first
    | (at_builtin; fail)
    | (refine wpList_load_row rfl 27 _ rfl q rfl 27 ov (0, 0) _ (HB.out.2) Tryz.underlying27 rfl HI.out ?_))
  refine (HR.out _ HB.out.1).mono ?_
  rintro e W1 ⟨rfl, hb1⟩
  have hbw := HB.out.1.trans (hb1.mono HB.out.1.size)
  have HL1 := Lib.hid (HB.out.2.below hb1 HB.out.2.lt)
  have HW1 := Lib.hid hbw
  clear hb1 hbw HR
  cases r with
  | true =>
    have HCC := Lib.hid (HC.out rfl W1 HW1.out)
    clear HC
    go_wp2_with (first
      | (at_builtin; fail)
      | (refine wpList_load_row rfl 27 _ rfl q rfl 27 ov (0, 0) _ (HL1.out) Tryz.underlying27 rfl HI.out ?_))
    refine HCC.out.mono ?_
    rintro e W2 hr2
    obtain ⟨rfl, hr2⟩ := hr2
    have HE := Lib.hid hr2
    clear hr2 HCC
    go_wp2_with fail
    first
      | go_end0
      | refine bodyPost_ret (results_none rfl _ _ _) rfl ?_
    rw [H.out.2]
    exact PutR.after HW1.out ⟨rfl, HE.out⟩
  | false =>
    have HCC := Lib.hid (wSpoil W1 (H.out.1.belowW HW1.out))
    clear HC
    go_wp2_with fail
    refine HCC.out.mono ?_
    rintro e W2 hr2
    obtain ⟨rfl, hr2⟩ := hr2
    have HE := Lib.hid hr2
    clear hr2 HCC
    go_wp2_with fail
    first
      | go_end0
      | refine bodyPost_ret (results_none rfl _ _ _) rfl ?_
    rw [H.out.2]
    exact PutR.after HW1.out ⟨rfl, HE.out⟩
set_option maxHeartbeats 4000000 in
theorem putValue_any (w : World) {B g : Nat} {v : Value} {st : Option (List UInt8)} (x : Va) (hT : Stays g w v fun W => Row W x.pa x.l) (h : WrO W.WSt w B g v st) (hx : sz st + 57 * cntV x ≤ 700000) :
    Calls Tryz.prog 112 #[.pointer (some ⟨g, 0, none⟩), .agg (vaC x)] w (PutR W.WSt w B g v (if rightV x then valS st x else none)) := by
  have hf := hT.now
  obtain ⟨s3, hs3⟩ : ∃ s, s = (if rightV x then valS st x else none) := ⟨_, rfl⟩
  obtain ⟨ov, hov⟩ : ∃ y, y = vaC x := ⟨_, rfl⟩
  have HC : Hid (∀ V, Below w.heap.size w V → Calls Tryz.prog 183 #[.pointer (some ⟨g, 0, none⟩), .agg ov, .func (Fn.func 63) #[] #[], .func (Fn.func 184) #[] #[]] V (PutR W.WSt V B g v s3)) := Lib.hid fun V hb => by
    rw [hs3, hov]; exact putValueG_any V x (hT.on (Lk.of_below hb))  (h.belowW hb) hx
  have hi1 : (Tryz.prog.info? 27).map (·.size) = some ov.size := by rw [hov, vaC_size x]; exact info_value
  have hL := Lies.new w ov 27
  have hb : Below w.heap.size w (w.alloc (.cells ov 27)) := (Below.refl _ _).alloc (Nat.le_refl _) _
  have HI := Lib.hid hi1
  rw [← hs3, ← hov]
  clear hT h hx hf hs3 hov hi1
  obtain ⟨W0, HW⟩ : ∃ W0, w.alloc (.cells ov 27) = W0 := ⟨_, rfl⟩
  go_enter Tryz.func112, Tryz.ntmps112
  go_upto_region 1 with fail
  rw [HW] at hL hb
  clear HW
  obtain ⟨q, hq⟩ : ∃ q, q = w.heap.size := ⟨_, rfl⟩
  rw [← hq] at hL ⊢
  clear hq
  have HB := Lib.hid (And.intro hb hL)
  clear hb hL
  go_wp2_with (first
    | (at_builtin; fail)
    | (refine wpList_load_row rfl 27 _ rfl q rfl 27 ov (0, 0) _ (HB.out.2) Tryz.underlying27 rfl HI.out ?_))
  refine (HC.out _ HB.out.1).mono ?_
  rintro e W2 hr2
  obtain ⟨rfl, hr2⟩ := hr2
  have HE := Lib.hid hr2
  clear hr2 HC
  go_wp2_with fail
  go_end0
  exact PutR.after HB.out.1 ⟨rfl, HE.out⟩
set_option maxHeartbeats 4000000 in
theorem putRefG_any (w : World) {B g : Nat} {v : Value} {st : Option (List UInt8)} (y0 : Rf) (hl : y0.tx.length = 32) (hT : Stays g w v fun _ => True) (h : WrO W.WSt w B g v st) (hx : sz st ≤ 700000) :
    Calls Tryz.prog 187 #[.pointer (some ⟨g, 0, none⟩), .agg (refC y0), .func (Fn.func 68) #[] #[], .func (Fn.func 188) #[] #[]] w (PutR W.WSt w B g v (if rightRefB y0 then refS st y0 else none)) := by
  have hf := hT.now
  obtain ⟨r, hrb⟩ : ∃ r, r = rightRefB y0 := ⟨_, rfl⟩
  obtain ⟨s2, hs2⟩ : ∃ s, s = refS st y0 := ⟨_, rfl⟩
  obtain ⟨s3, hs3⟩ : ∃ s, s = (if r then s2 else none) := ⟨_, rfl⟩
  obtain ⟨ov, hov⟩ : ∃ y, y = refC y0 := ⟨_, rfl⟩
  have hf1 := T.callK 68 Tryz.f68 Tryz.func68 (by kernel_rfl) (by kernel_rfl)
  have hf2 := T.callK 188 Tryz.f188 Tryz.func188 (by kernel_rfl) (by kernel_rfl)
  have HR : Hid (∀ V, Below w.heap.size w V → Calls Tryz.prog 68 #[.agg ov] V fun e w' => e = .returned (.bool r) ∧ Below V.heap.size V w') := Lib.hid fun V hb => by
    have hf := (hT.on (Lk.of_below hb)).now
    rw [hrb, hov]; exact rightRef_any V y0 hl
  have HC : Hid (r = true → ∀ V, Below w.heap.size w V → Calls Tryz.prog 188 #[.agg #[.pointer (some ⟨g, 0, none⟩)], .agg ov] V (PutR W.WSt V B g v s2)) := Lib.hid fun hr V hb => by
    have hS := hT.on (Lk.of_below hb)
    have hw := h.belowW hb
    rw [hrb] at hr
    rw [hs2, hov]; exact putterRef_any V y0 hl hw hx
  have hi1 : (Tryz.prog.info? 37).map (·.size) = some ov.size := by rw [hov, refC_size y0 hl]; exact info_ref
  have hL := Lies.new w ov 37
  have hb : Below w.heap.size w (w.alloc (.cells ov 37)) := (Below.refl _ _).alloc (Nat.le_refl _) _
  have HI := Lib.hid hi1
  rw [← hrb, ← hs2, ← hs3, ← hov]
  have H := Lib.hid (And.intro h hs3)
  clear hT h hx hf hrb hs2 hs3 hov hi1
  obtain ⟨W0, HW⟩ : ∃ W0, w.alloc (.cells ov 37) = W0 := ⟨_, rfl⟩
  go_enter Tryz.func187, Tryz.ntmps187
  go_upto_region 1 with fail
  rw [HW] at hL hb
  clear HW
  obtain ⟨q, hq⟩ : ∃ q, q = w.heap.size := ⟨_, rfl⟩
  rw [← hq] at hL ⊢
  clear hq
  have HB := Lib.hid (And.intro hb hL)
  clear hb hL
  go_wp2_with (first
    | (at_builtin; fail)
    | (refine wpList_load_row rfl 37 _ rfl q rfl 37 ov (0, 0) _ (HB.out.2) Tryz.underlying37 rfl HI.out ?_))
  refine (HR.out _ HB.out.1).mono ?_
  rintro e W1 ⟨rfl, hb1⟩
  have hbw := HB.out.1.trans (hb1.mono HB.out.1.size)
  have HL1 := Lib.hid (HB.out.2.below hb1 HB.out.2.lt)
  have HW1 := Lib.hid hbw
  clear hb1 hbw HR
  cases r with
  | true =>
    have HCC := Lib.hid (HC.out rfl W1 HW1.out)
    clear HC
    go_wp2_with (first
      | (at_builtin; fail)
      | (refine wpList_load_row rfl 37 _ rfl q rfl 37 ov (0, 0) _ (HL1.out) Tryz.underlying37 rfl HI.out ?_))
    refine HCC.out.mono ?_
    rintro e W2 hr2
    obtain ⟨rfl, hr2⟩ := hr2
    have HE := Lib.hid hr2
    clear hr2 HCC
    go_wp2_with fail
    first
      | go_end0
      | refine bodyPost_ret (results_none rfl _ _ _) rfl ?_
    rw [H.out.2]
    exact PutR.after HW1.out ⟨rfl, HE.out⟩
  | false =>
    have HCC := Lib.hid (wSpoil W1 (H.out.1.belowW HW1.out))
    clear HC
    go_wp2_with fail
    refine HCC.out.mono ?_
    rintro e W2 hr2
    obtain ⟨rfl, hr2⟩ := hr2
    have HE := Lib.hid hr2
    clear hr2 HCC
    go_wp2_with fail
    first
      | go_end0
      | refine bodyPost_ret (results_none rfl _ _ _) rfl ?_
    rw [H.out.2]
    exact PutR.after HW1.out ⟨rfl, HE.out⟩
set_option maxHeartbeats 4000000 in
theorem putRef_any (w : World) {B g : Nat} {v : Value} {st : Option (List UInt8)} (y0 : Rf) (hl : y0.tx.length = 32) (hT : Stays g w v fun _ => True) (h : WrO W.WSt w B g v st) (hx : sz st ≤ 700000) :
    Calls Tryz.prog 114 #[.pointer (some ⟨g, 0, none⟩), .agg (refC y0)] w (PutR W.WSt w B g v (if rightRefB y0 then refS st y0 else none)) := by
  have hf := hT.now
  obtain ⟨s3, hs3⟩ : ∃ s, s = (if rightRefB y0 then refS st y0 else none) := ⟨_, rfl⟩
  obtain ⟨ov, hov⟩ : ∃ y, y = refC y0 := ⟨_, rfl⟩
  have HC : Hid (∀ V, Below w.heap.size w V → Calls Tryz.prog 187 #[.pointer (some ⟨g, 0, none⟩), .agg ov, .func (Fn.func 68) #[] #[], .func (Fn.func 188) #[] #[]] V (PutR W.WSt V B g v s3)) := Lib.hid fun V hb => by
    rw [hs3, hov]; exact putRefG_any V y0 hl (hT.on (Lk.of_below hb))  (h.belowW hb) hx
  have hi1 : (Tryz.prog.info? 37).map (·.size) = some ov.size := by rw [hov, refC_size y0 hl]; exact info_ref
  have hL := Lies.new w ov 37
  have hb : Below w.heap.size w (w.alloc (.cells ov 37)) := (Below.refl _ _).alloc (Nat.le_refl _) _
  have HI := Lib.hid hi1
  rw [← hs3, ← hov]
  clear hT h hx hf hs3 hov hi1
  obtain ⟨W0, HW⟩ : ∃ W0, w.alloc (.cells ov 37) = W0 := ⟨_, rfl⟩
  go_enter Tryz.func114, Tryz.ntmps114
  go_upto_region 1 with fail
  rw [HW] at hL hb
  clear HW
  obtain ⟨q, hq⟩ : ∃ q, q = w.heap.size := ⟨_, rfl⟩
  rw [← hq] at hL ⊢
  clear hq
  have HB := Lib.hid (And.intro hb hL)
  clear hb hL
  go_wp2_with (first
    | (at_builtin; fail)
    | (refine wpList_load_row rfl 37 _ rfl q rfl 37 ov (0, 0) _ (HB.out.2) Tryz.underlying37 rfl HI.out ?_))
  refine (HC.out _ HB.out.1).mono ?_
  rintro e W2 hr2
  obtain ⟨rfl, hr2⟩ := hr2
  have HE := Lib.hid hr2
  clear hr2 HC
  go_wp2_with fail
  go_end0
  exact PutR.after HB.out.1 ⟨rfl, HE.out⟩
end Go.Proofs.YtilbbemdinpjcaaGreat.P
namespace Go.Proofs.YtilbbemdinpjcaaGreat.W
open Go.RowKit

theorem str_of_src {W : World} {k off c : Nat} {l : List UInt8} (h : Src W k off l) : (convert 54 9 (.slice (some ⟨k, off, none⟩) l.length c)).run Tryz.prog W = .ok (.string ⟨l.toArray⟩) W :=
  run_convert_bytes_back W 54 9 5 ⟨k, off, none⟩ c l Tryz.underlying54 Tryz.underlying5 Tryz.underlying9 (fun j hj => by
    rw [Addr.add_mid, h j hj]
    simp [hj])
theorem str_none (w : World) (k off c : Nat) : (convert 54 9 (.slice (some ⟨k, off, none⟩) 0 c)).run Tryz.prog w = .ok (.string ⟨#[]⟩) w :=
  str_of_src (l := []) (fun j hj => absurd hj (by simp))
set_option maxRecDepth 100000 in
theorem text1_some (W : World) (p q g k : Nat) (xs : List UInt8) (c a : Nat) (m : Int) (n : Nat) (ys : List UInt8) (hp : W.cell? ⟨p, 0, none⟩ = some (.pointer (some ⟨g, 0, none⟩))) (hq : W.cell? ⟨q, 0, none⟩ = some (.int .i64 m)) (hpl : p < W.heap.size) (hql : q < W.heap.size) (hpg : p ≠ g) (hqg : q ≠ g) (h : Rdr W g k xs c a false)
    (hn : a + 2 + n ≤ xs.length) (h0 : 0 < n) (hv : beVal ((xs.drop a).take 2) = n) (hm : (n : Int) ≤ m) (hys : (xs.drop (a + 2)).take n = ys) :
    Calls Tryz.prog 282 #[.pointer (some ⟨p, 0, none⟩), .pointer (some ⟨q, 0, none⟩)] W fun e W' => e = .returned (.string ⟨ys.toArray⟩) ∧ Rdr W' g k xs c (a + 2 + n) false ∧ Only g W W' none := by
  have hyl : ys.length = n := by rw [← hys, List.length_take, List.length_drop]; omega
  have hu : ∀ V, Rdr V g k xs c a false → Calls Tryz.prog 269 #[.pointer (some ⟨g, 0, none⟩), .int .i64 m, .int .i64 2] V fun e V' => e = .returned (.int .i64 n) ∧ Rdr V' g k xs c (a + 2) false ∧ Only g V V' none := fun V hV => by
    have := upto_good V g k xs c a hV m 2 (by omega) (by omega) (by rw [hv]; exact hm)
    rwa [hv] at this
  have hx : ∀ V, Rdr V g k xs c (a + 2) false → Calls Tryz.prog 276 #[.pointer (some ⟨g, 0, none⟩), .int .i64 n] V fun e V' => e = .returned (.slice (some ⟨k, a + 2, none⟩) n (c - (a + 2))) ∧ Rdr V' g k xs c (a + 2 + n) false ∧ Only g V V' none := fun V hV => next_at V g k xs c (a + 2) hV n hn h0
  have hts : ∀ V, V.cell? ⟨p, 0, none⟩ = some (.pointer (some ⟨g, 0, none⟩)) → V.cell? ⟨q, 0, none⟩ = some (.int .i64 m) → Src V k 0 xs →
      V.cell? ⟨p, 0, none⟩ = some (.pointer (some ⟨g, 0, none⟩)) ∧ V.cell? ⟨q, 0, none⟩ = some (.int .i64 m) ∧ (convert 54 9 (.slice (some ⟨k, a + 2, none⟩) n (c - (a + 2)))).run Tryz.prog V = .ok (.string ⟨ys.toArray⟩) V := fun V h1 h2 hs => ⟨h1, h2, by
    have := str_of_src (c := c - (a + 2)) (part_src hs (a + 2) n)
    rwa [hys, hyl] at this⟩
  have HU := Lib.hid hu
  have HX := Lib.hid hx
  have HT := Lib.hid hts
  have hbd : Below W.heap.size W W.drew := (Below.refl _ _).drew
  have hd := h.below hbd
  have HBD := Lib.hid hbd
  have HR := Lib.hid hd
  have hsw : Src W k 0 xs := h.2.1
  clear hu hx hts hv hm hys hyl hd hbd h
  go_enter Tryz.func282, Tryz.ntmps282
  go_wp2_with fail
  go_region_held3 (fun w' => w'.cell? ⟨p, 0, none⟩ = some (.pointer (some ⟨g, 0, none⟩)) ∧ w'.cell? ⟨q, 0, none⟩ = some (.int .i64 m) ∧ (convert 54 9 (.slice (some ⟨k, a + 2, none⟩) n (c - (a + 2)))).run Tryz.prog w' = .ok (.string ⟨ys.toArray⟩) w') (exact HT.out _ (by assumption) (by assumption) (by assumption)) (first
    | ((with_reducible refine (HU.out _ HR.out).mono ?_); rintro e w1 ⟨rfl, hr1, ho1⟩; have g1 := (ho1.cell (o := 0) hpl hpg).trans hp; have g2 := (ho1.cell (o := 0) hql hqg).trans hq; have g3 := hr1.2.1)
    | ((with_reducible refine (HX.out _ hr1).mono ?_); rintro e w2 ⟨rfl, hr2, ho2⟩; have k1 := (ho2.cell (o := 0) (Nat.lt_of_lt_of_le hpl ho1.size) hpg).trans g1; have k2 := (ho2.cell (o := 0) (Nat.lt_of_lt_of_le hql ho1.size) hqg).trans g2; have k3 := hr2.2.1))
  all_goals
    go_wp2_with fail
    go_ret
    exact ⟨rfl, hr2, ((only_below HBD.out).trans0 ho1).trans0 ho2⟩
set_option maxRecDepth 100000 in
theorem rtext_some (w : World) (g k : Nat) (xs : List UInt8) (c a : Nat) (m : Int) (n : Nat) (ys : List UInt8) (h : Rdr w g k xs c a false)
    (hn : a + 2 + n ≤ xs.length) (h0 : 0 < n) (hv : beVal ((xs.drop a).take 2) = n) (hm : (n : Int) ≤ m) (hys : (xs.drop (a + 2)).take n = ys) :
    Calls Tryz.prog 254 #[.pointer (some ⟨g, 0, none⟩), .int .i64 m] w fun e w' => e = .returned (.string ⟨ys.toArray⟩) ∧ Rdr w' g k xs c (a + 2 + n) false ∧ Only g w w' none := by
  have hmf : ∀ (fn : Fn) (first cap : Array Value) (w : World), (Instr.makeFunc fn first cap).run Tryz.prog w = .ok (.func fn first cap) w := fun _ _ _ _ => rfl
  have hgl := h.1.lt
  obtain ⟨hr, hb⟩ := rdr_pair h (.pointer (some ⟨g, 0, none⟩)) (.int .i64 m) 56 3
  have ht := tell83_met _ g k xs c a (a + 2 + n) (.string ⟨ys.toArray⟩) 282 #[.pointer (some ⟨w.heap.size, 0, none⟩), .pointer (some ⟨w.heap.size + 1, 0, none⟩)] hr (callK 282 Tryz.f282 Tryz.func282 (by kernel_rfl) (by kernel_rfl) _)
    (fun W hW hR => text1_some W w.heap.size (w.heap.size + 1) g k xs c a m n ys (by rw [hW.cell (p := ⟨w.heap.size, 0, none⟩) (by simp; omega)]; simp [go_sem]) (by rw [hW.cell (p := ⟨w.heap.size + 1, 0, none⟩) (by simp)]; simp [go_sem])
      (by have := hW.size; simp at this; omega) (by have := hW.size; simp at this; omega) (by omega) (by omega) hR hn h0 hv hm hys)
  have HT := Lib.hid ht
  have HB := Lib.hid hb
  clear ht hb hr h hv hm hys
  go_enter Tryz.func254, Tryz.ntmps254
  go_wp2_with fail
  refine HT.out.mono ?_
  rintro e w1 ⟨rfl, hr, ho⟩
  have HR := Lib.hid (And.intro hr ((only_below HB.out).trans0 ho))
  clear hr ho
  go_wp2_with fail
  go_ret
  exact ⟨rfl, HR.out⟩
end Go.Proofs.YtilbbemdinpjcaaGreat.W
namespace Go.Proofs.YtilbbemdinpjcaaGreat.W
open Go.RowKit

theorem Only.below {w0 : World} {g : Nat} {w w' : World} {o : Option Nat} (h : Only g w w' o) (hb : Below w0.heap.size w0 w) (hg : w0.heap.size ≤ g) (ho : ∀ x, o = some x → w0.heap.size ≤ x) : Below w0.heap.size w0 w' :=
  ⟨h.os.trans hb.os, h.tape.trans hb.tape, h.output.trans hb.output, Nat.le_trans hb.size h.size, fun k hk => (h.block k (Nat.lt_of_lt_of_le hk hb.size) (by omega) (fun e => by have := ho k e.symm; omega)).trans (hb.block k hk)⟩
theorem WrV.block {w : World} {B g : Nat} {v : Value} {l : List UInt8} (h : WrV w B g v l) : ∀ x, v.ownBlock = some x → B ≤ x := by
  intro x hx
  rcases h.2.1.2 with ⟨rfl, _⟩ | ⟨g2, cap, cur, rfl, h2, _⟩
  · cases hx
  · have : g2 = x := by simpa [Value.ownBlock] using hx
    omega
theorem Wr.wrv {w : World} {B g : Nat} {l : List UInt8} (h : Wr w B g l) : ∃ v, WrV w B g v l := by
  obtain ⟨v, h1, h2, h3, h4⟩ := h
  exact ⟨v, h1, h2, h3, h4⟩
theorem Rdr.only {w w' : World} {g k g' : Nat} {xs : List UInt8} {c a : Nat} {sp : Bool} (h : Rdr w g k xs c a sp) (ho : Only g' w w' none) (hg : g ≠ g') (hk : k ≠ g') : Rdr w' g k xs c a sp :=
  ⟨(ho.block g h.1.lt hg (by simp)).trans h.1, h.2.1.only ho h.2.2.2.1 hk, h.2.2.1, Nat.lt_of_lt_of_le h.2.2.2.1 ho.size, h.2.2.2.2⟩
def exB : List UInt8 := [1, 2, 0, 2, 97, 98, 1]
theorem ex_bytes : ([] ++ beN 258 2 ++ (beN (⟨#[97, 98]⟩ : ByteArray).size 2 ++ (⟨#[97, 98]⟩ : ByteArray).data.toList)) ++ [if true then 1 else 0] = exB := by decide

end Go.Proofs.YtilbbemdinpjcaaGreat.W
namespace Go.Proofs.YtilbbemdinpjcaaGreat.W
open Go.RowKit

end Go.Proofs.YtilbbemdinpjcaaGreat.W
