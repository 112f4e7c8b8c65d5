/-
  pack: the putter's outputs; PutOutput.
-/
import Derived.Test.YtilbbemdinpjcaaGreatJQg
import Derived.Test.YtilbbemdinpjcaaGreatJVe
import Derived.Test.YtilbbemdinpjcaaGreatJPt
import Derived.Test.YtilbbemdinpjcaaGreatJPf
namespace Go.Proofs.YtilbbemdinpjcaaGreat.P
set_option maxRecDepth 100000
open Go.ChangeShapes Go.WideShapes Go.ChangeAt Go.RowKit Go.Deep

section
variable {H : Type} {enc : TypeId × Value → H} {W : World}
theorem pc_term : Tryz.prog.cellsOf 24 = 1 := by kernel_rfl
theorem pc_nodes : Tryz.prog.cellsOf 22 = 1 := by kernel_rfl
theorem pc_addr : Tryz.prog.cellsOf 32 = 33 := by kernel_rfl
theorem pc_out : Tryz.prog.cellsOf 35 = 69 := by kernel_rfl
theorem pc_ref : Tryz.prog.cellsOf 37 = 33 := by kernel_rfl
theorem pc_en : Tryz.prog.cellsOf 81 = 102 := by kernel_rfl
theorem pc_datum : Tryz.prog.cellsOf 33 = 1 := by kernel_rfl
theorem pc_bool : Tryz.prog.cellsOf 4 = 1 := by kernel_rfl
theorem wt_agg {t : TypeId} {fs : Array Field} (ht : Tryz.prog.underlying t = some (.struct fs)) {ys : List (DataW H × List MemPlace)} {x : DataW H × List MemPlace} {q : List MemPlace} (hx : x = (.agg (ys.map Prod.fst), q)) (j : Nat) (f : Field) (hf : fs[j]? = some f) (hj : j < ys.length) (h : ∀ n ∈ x.1.weights Tryz.prog t, n ≤ reachBytes) : ∀ n ∈ (ys[j].1).weights Tryz.prog f.type, n ≤ reachBytes := fun n hn => h n (by
  rw [hx, DataW.weights, ht]
  exact DataW.weights_mem_each (j := j) (by rw [List.getElem?_map, Array.getElem?_toList, hf]; rfl) (by rw [List.getElem?_map, List.getElem?_eq_getElem hj]; rfl) _ hn)
theorem term_in {fuel : Nat} {cs : List Value} {x : DataW H × List MemPlace} (hf : DataW.trod enc Tryz.prog W 0 (fun _ => true) true fuel 24 cs = some x) (hreach : ∀ n ∈ x.1.weights Tryz.prog 24, n ≤ reachBytes) :
    ∃ (a : Option Addr) (ns : List T.Nd) (c : Nat), cs = [.slice a ns.length c] ∧ NsIn W a ns c := by
  obtain ⟨ys, m, _, hx, hlen, hyl, hg⟩ := DataW.trod_struct Tryz.underlying24 hf
  rw [pc_term] at hlen
  have hyl1 : ys.length = 1 := hyl
  have h0 := (hg 0 _ rfl).trans (List.getElem?_eq_getElem (show 0 < ys.length by omega))
  obtain ⟨a, ns, c, e0, hn⟩ := nodes_in h0 (wt_agg Tryz.underlying24 hx 0 _ rfl (by omega) hreach)
  have e1 : (cs.drop 0).take (Tryz.prog.cellsOf 22) = [.slice a ns.length c] := e0
  rw [pc_nodes, List.drop_zero, List.take_of_length_le (by omega)] at e1
  exact ⟨a, ns, c, e1, hn⟩
theorem cut_two {l : List Value} (a b : Nat) (h : l.length = a + b) : l = (l.drop 0).take a ++ (l.drop a).take b := by
  rw [List.drop_zero, List.take_of_length_le (l := l.drop a) (by rw [List.length_drop]; omega), List.take_append_drop]
theorem ref_in {fuel : Nat} {cs : List Value} {x : DataW H × List MemPlace} (hf : DataW.trod enc Tryz.prog W 0 (fun _ => true) true fuel 37 cs = some x) :
    ∃ r : Rf, cs = (refC r).toList ∧ RfOk r := by
  obtain ⟨ys, m, _, hx, hlen, hyl, hg⟩ := DataW.trod_struct Tryz.underlying37 hf
  rw [pc_ref] at hlen
  have hyl2 : ys.length = 2 := hyl
  have at_ := fun (j : Nat) (f : Field) (hj : j < 2) hfj => (hg j f hfj).trans (List.getElem?_eq_getElem (show j < ys.length by omega))
  obtain ⟨hs, hl, e0⟩ := hash_in (at_ 0 _ (by omega) rfl)
  obtain ⟨n1, e1, _, w1⟩ := DataW.trod_int Tryz.underlying3 (at_ 1 _ (by omega) rfl)
  obtain ⟨hlo, hhi⟩ := int_of w1
  have f0 : (cs.drop 0).take (Tryz.prog.cellsOf 30) = (B8 hs).toList := e0
  have f1 : (cs.drop 32).take (Tryz.prog.cellsOf 3) = [.int .i64 n1] := e1
  rw [dc26] at f0
  rw [pc_int] at f1
  refine ⟨⟨hs, n1⟩, ?_, hl, hlo, hhi⟩
  rw [cut_two 32 1 hlen, f0, f1]
  simp [refC]
theorem addr_in {fuel : Nat} {cs : List Value} {x : DataW H × List MemPlace} (hf : DataW.trod enc Tryz.prog W 0 (fun _ => true) true fuel 32 cs = some x) :
    ∃ (b : Bool) (ah : List UInt8), cs = (adC b ah).toList ∧ ah.length = 32 := by
  obtain ⟨ys, m, _, hx, hlen, hyl, hg⟩ := DataW.trod_struct Tryz.underlying32 hf
  rw [pc_addr] at hlen
  have hyl2 : ys.length = 2 := hyl
  have at_ := fun (j : Nat) (f : Field) (hj : j < 2) hfj => (hg j f hfj).trans (List.getElem?_eq_getElem (show j < ys.length by omega))
  obtain ⟨b, e0, _⟩ := DataW.trod_bool Tryz.underlying4 (at_ 0 _ (by omega) rfl)
  obtain ⟨hs, hl, e1⟩ := hash_in (at_ 1 _ (by omega) rfl)
  have f0 : (cs.drop 0).take (Tryz.prog.cellsOf 4) = [.bool b] := e0
  have f1 : (cs.drop 1).take (Tryz.prog.cellsOf 30) = (B8 hs).toList := e1
  rw [pc_bool] at f0
  rw [dc26] at f1
  refine ⟨b, hs, ?_, hl⟩
  rw [cut_two 1 32 hlen, f0, f1]
  simp [adC]
theorem cut_out {l : List Value} (h : l.length = 69) : l = (l.drop 0).take 33 ++ ((l.drop 33).take 2 ++ ((l.drop 35).take 1 ++ ((l.drop 36).take 32 ++ (l.drop 68).take 1))) := by
  have h5 : (l.drop 68).take 1 = (l.drop 36).drop 32 := by rw [List.drop_drop, List.take_of_length_le (by rw [List.length_drop]; omega)]
  have h4 : l.drop 36 = (l.drop 35).drop 1 := by rw [List.drop_drop]
  have h3 : l.drop 35 = (l.drop 33).drop 2 := by rw [List.drop_drop]
  rw [h5, List.take_append_drop, h4, List.take_append_drop, h3, List.take_append_drop, List.drop_zero, List.take_append_drop]
/-- An output as it comes in. -/
theorem out_in {fuel : Nat} {cs : List Value} {x : DataW H × List MemPlace} (hf : DataW.trod enc Tryz.prog W 0 (fun _ => true) true fuel 35 cs = some x) (hreach : ∀ n ∈ x.1.weights Tryz.prog 35, n ≤ reachBytes) :
    ∃ o : Ot, cs = (otC o).toList ∧ OtRaw W o ∧ (∀ y ∈ o.ns, NdIn y) ∧ I64 o.kind ∧ Room o.v ∧ (o.tp = none → o.tc = 0) := by
  obtain ⟨ys, m, _, hx, hlen, hyl, hg⟩ := DataW.trod_struct Tryz.underlying35 hf
  rw [pc_out] at hlen
  have hyl5 : ys.length = 5 := hyl
  have at_ := fun (j : Nat) (f : Field) (hj : j < 5) hfj => (hg j f hfj).trans (List.getElem?_eq_getElem (show j < ys.length by omega))
  obtain ⟨b, ah, e0, hah⟩ := addr_in (at_ 0 _ (by omega) rfl)
  obtain ⟨v, e1, hv, hrm⟩ := value_in (at_ 1 _ (by omega) rfl)
  obtain ⟨kd, e2, _, w2⟩ := DataW.trod_int Tryz.underlying33 (at_ 2 _ (by omega) rfl)
  obtain ⟨dh, hdh, e3⟩ := hash_in (at_ 3 _ (by omega) rfl)
  obtain ⟨a, ns, c, e4, hn⟩ := term_in (at_ 4 _ (by omega) rfl) (wt_agg Tryz.underlying35 hx 4 _ rfl (by omega) hreach)
  have f0 : (cs.drop 0).take (Tryz.prog.cellsOf 32) = (adC b ah).toList := e0
  have f1 : (cs.drop 33).take (Tryz.prog.cellsOf 27) = (vaC v).toList := e1
  have f2 : (cs.drop 35).take (Tryz.prog.cellsOf 33) = [.int .i64 kd] := e2
  have f3 : (cs.drop 36).take (Tryz.prog.cellsOf 30) = (B8 dh).toList := e3
  have f4 : (cs.drop 68).take (Tryz.prog.cellsOf 24) = [.slice a ns.length c] := e4
  rw [pc_addr] at f0
  rw [dc24] at f1
  rw [pc_datum] at f2
  rw [dc26] at f3
  rw [pc_term] at f4
  refine ⟨⟨b, ah, v, kd, dh, a, ns, c⟩, ?_, ⟨hah, hv, hdh, hn.raw, fun y hy => (hn.ins y hy).txt, hn.len, fun y hy => by have := (hn.ins y hy).kids.2; omega, hn.cap⟩, hn.ins, int_of w2, hrm, hn.room⟩
  rw [cut_out hlen, f0, f1, f2, f3, f4]
  simp [otC, adC, vaC, vC]
/-- What more is known of an entry that comes in. -/
structure EnIn (e : En) : Prop where
  ins : ∀ y ∈ e.o.ns, NdIn y
  kind : I64 e.o.kind
  room : Room e.o.v
  troom : e.o.tp = none → e.o.tc = 0
theorem entry_in {fuel : Nat} {cs : List Value} {x : DataW H × List MemPlace} (hf : DataW.trod enc Tryz.prog W 0 (fun _ => true) true fuel 81 cs = some x) (hreach : ∀ n ∈ x.1.weights Tryz.prog 81, n ≤ reachBytes) :
    ∃ e : En, cs = (enC e).toList ∧ EnRaw W e ∧ EnIn e := by
  obtain ⟨ys, m, _, hx, hlen, hyl, hg⟩ := DataW.trod_struct Tryz.underlying81 hf
  rw [pc_en] at hlen
  have hyl2 : ys.length = 2 := hyl
  have at_ := fun (j : Nat) (f : Field) (hj : j < 2) hfj => (hg j f hfj).trans (List.getElem?_eq_getElem (show j < ys.length by omega))
  obtain ⟨r, e0, hr⟩ := ref_in (at_ 0 _ (by omega) rfl)
  obtain ⟨o, e1, ho, h1, h2, h3, h4⟩ := out_in (at_ 1 _ (by omega) rfl) (wt_agg Tryz.underlying81 hx 1 _ rfl (by omega) hreach)
  have f0 : (cs.drop 0).take (Tryz.prog.cellsOf 37) = (refC r).toList := e0
  have f1 : (cs.drop 33).take (Tryz.prog.cellsOf 35) = (otC o).toList := e1
  rw [pc_ref] at f0
  rw [pc_out] at f1
  refine ⟨⟨r, o⟩, ?_, ⟨hr, ho⟩, ⟨h1, h2, h3, h4⟩⟩
  rw [cut_two 33 69 hlen, f0, f1]
  simp [enC]
theorem entries_in {fuel : Nat} {cs : List Value} {x : DataW H × List MemPlace} (hf : DataW.trod enc Tryz.prog W 0 (fun _ => true) true fuel 38 cs = some x) (hreach : ∀ n ∈ x.1.weights Tryz.prog 38, n ≤ reachBytes) :
    ∃ (pa : Option Addr) (es : List En) (c : Nat), cs = [.slice pa es.length c] ∧ RowER W pa es ∧ (∀ e ∈ es, EnIn e) ∧ es.length ≤ c ∧ (pa = none → c = 0) := by
  rcases open_slice Tryz.underlying38 hf with ⟨hcs, _⟩ | ⟨a, len, cap, m, n, D, Pl, hcs, hle, hl, hm, hmm, hx, hi⟩
  · exact ⟨none, [], 0, hcs, ⟨Nat.zero_le _, fun h => absurd h (by simp)⟩, fun e he => by simp at he, Nat.le_refl _, fun _ => rfl⟩
  · simp only [if_true] at hmm
    subst hmm
    have hd : x.1 = .slice ((List.range len).map D) ((List.range (m - len)).map fun j => D (len + j)) := by rw [hx]
    have each : ∀ i, i < len → ∃ q : En, (EnRaw W q ∧ EnIn q) ∧ ∀ j v, (enC q)[j]? = some v → W.cell? (a.add (i * 102 + j)) = some v := by
      intro i hil
      obtain ⟨cs', hc, ht⟩ := hi i (by omega)
      rw [pc_en] at hc
      obtain ⟨_, hcl, hat⟩ := World.cells?_some hc
      obtain ⟨q, rfl, hq, hin⟩ := entry_in ht (fun n hn => hreach n (by
        rw [hd, DataW.weights, Tryz.underlying38]
        exact List.mem_cons_of_mem _ (List.mem_append_left _ (weights_in hn (List.mem_map.2 ⟨i, List.mem_range.2 hil, rfl⟩)))))
      refine ⟨q, ⟨hq, hin⟩, fun j v hj => ?_⟩
      have hj2 : j < 102 := by
        have := (Array.getElem?_eq_some_iff.1 hj).1
        unfold enC at this
        rw [Array.size_append, refC_size _ hq.r.1, otC_size _ hq.o.ah hq.o.dh] at this
        exact this
      rw [← Go.Deep.add_add, hat j hj2, Array.getElem?_toList, hj]
    obtain ⟨xs, hpl, hps⟩ := list_of (⟨⟨[], 0⟩, ⟨false, [], ⟨0, none, [], 0⟩, 0, [], none, [], 0⟩⟩ : En) (fun i q => (EnRaw W q ∧ EnIn q) ∧ ∀ j v, (enC q)[j]? = some v → W.cell? (a.add (i * 102 + j)) = some v) len each
    subst hpl
    have hget : ∀ i q, xs[i]? = some q → (EnRaw W q ∧ EnIn q) ∧ ∀ j v, (enC q)[j]? = some v → W.cell? (a.add (i * 102 + j)) = some v := fun i q hq => by
      have h1 := hps i (List.getElem?_eq_some_iff.1 hq).1
      rw [List.getD_eq_getElem?_getD, hq] at h1
      exact h1
    refine ⟨some a, xs, m, hcs, ⟨by omega, fun hpos => ?_⟩, fun q hq => ?_, hl, fun e => by cases e⟩
    · obtain ⟨b, off, spot⟩ := a
      obtain ⟨⟨hok0, _⟩, h00⟩ := hget 0 _ (List.getElem?_eq_getElem hpos)
      have h0 := h00 0 _ (show (enC xs[0])[0]? = some (.int .u8 (xs[0].r.tx.getD 0 0).toNat) by unfold enC; rw [Array.getElem?_append_left (by rw [refC_size _ hok0.r.1]; omega)]; exact refC_get _ hok0.r.1 0 (by omega))
      have hspot : spot = none := by simpa [Addr.add] using World.cell?_spot h0
      subst hspot
      refine ⟨b, off, rfl, block_lt_of_cell h0, fun i q hi2 => ⟨fun j v hj => ?_, (hget i q hi2).1.1⟩⟩
      rw [Array.getElem?_toList] at hj
      have h2 := (hget i q hi2).2 j v hj
      rw [Addr.add_lit] at h2
      rw [show off + i * 102 + j = off + (i * 102 + j) by omega]
      exact h2
    · obtain ⟨i, hi2⟩ := List.getElem?_of_mem hq
      exact (hget i q hi2).1.2
/-- A ref as it comes in. -/
theorem open_ref {b0 : Nat} {v : Value} {d : DataW H} {p : List MemPlace} (hv : Value.okWide Tryz.prog W .any b0 37 v) (h : DataW.Trod enc Tryz.prog W 0 (fun _ => true) true 37 v d p) :
    ∃ r : Rf, v = .agg (refC r) ∧ RfOk r := by
  simp only [Value.okWide, Tryz.underlying37] at hv
  obtain ⟨cs, rfl, -⟩ := hv
  obtain ⟨fuel, hf⟩ := h
  obtain ⟨r, e, hr⟩ := ref_in hf
  have e2 : cs.toList = (refC r).toList := e
  exact ⟨r, congrArg Value.agg (Array.toList_inj.1 e2), hr⟩
/-- Entries in a row as they come in. -/
theorem open_entries {b0 : Nat} {v : Value} {d : DataW H} {p : List MemPlace} (hv : Value.okWide Tryz.prog W .any b0 38 v) (h : DataW.Trod enc Tryz.prog W 0 (fun _ => true) true 38 v d p) (hreach : ∀ n ∈ d.weights Tryz.prog 38, n ≤ reachBytes) :
    ∃ (pa : Option Addr) (es : List En) (c : Nat), v = .slice pa es.length c ∧ RowER W pa es ∧ (∀ e ∈ es, EnIn e) ∧ es.length ≤ c ∧ (pa = none → c = 0) := by
  obtain ⟨a0, len, cap, rfl⟩ := okWide_slice Tryz.underlying38 hv
  obtain ⟨fuel, hf⟩ := h
  obtain ⟨pa, es, c, e, hr⟩ := entries_in hf hreach
  exact ⟨pa, es, c, by simpa [Value.cells] using e, hr⟩
end
end Go.Proofs.YtilbbemdinpjcaaGreat.P
namespace Go.Proofs.YtilbbemdinpjcaaGreat.P
set_option maxRecDepth 100000
open Go.RowKit Go.Sort

theorem keyed_ref : Tryz.prog.keyTypeAt 5 37 = true := by kernel_rfl
theorem formed_ref (r : Rf) (h : r.tx.length = 32) : (Value.agg (refC r)).formed Tryz.prog 37 = true := by
  obtain ⟨p, x⟩ := r
  obtain ⟨a0, a1, a2, a3, a4, a5, a6, a7, a8, a9, a10, a11, a12, a13, a14, a15, a16, a17, a18, a19, a20, a21, a22, a23, a24, a25, a26, a27, a28, a29, a30, a31, rfl⟩ := list32 p h
  kernel_rfl
theorem lit_int (d : Nat) (x : Int) (h1 : -9223372036854775808 ≤ x) (h2 : x < 9223372036854775808) : Tryz.prog.keyLits (d + 1) 3 [.int .i64 x] = some [Lit.int .i64 x] := by
  have hmin : IntKind.i64.min = -9223372036854775808 := rfl
  have hmax : IntKind.i64.max = 9223372036854775807 := rfl
  have hw : (Lit.int .i64 x).wf = true := by
    simp only [Lit.wf, Bool.and_eq_true, decide_eq_true_eq]
    omega
  unfold Program.keyLits
  simp [Tryz.underlying3, hw]
theorem lits_ref (d : Nat) (r : Rf) (h : RfOk r) : Tryz.prog.keyLits (d + 3) 37 (refC r).toList = some ((r.tx.map fun b => Lit.int .u8 b.toNat) ++ [Lit.int .i64 r.place]) := by
  have hl : (B8 r.tx).toList.length = 32 := by rw [Array.length_toList, B8_size, h.1]
  have e : (refC r).toList = (B8 r.tx).toList ++ [.int .i64 r.place] := by simp [refC]
  rw [e]
  unfold Program.keyLits
  simp only [Tryz.underlying37, pc_ref, List.length_append, hl, List.length_cons, List.length_nil]
  rw [if_pos ⟨trivial, by kernel_rfl⟩]
  simp only [List.mapM_cons, List.mapM_nil, dc26, pc_int, List.drop_zero, List.take_left' hl, List.drop_left' hl]
  rw [litsH d r.tx h.1]
  simp [lit_int (d + 1) r.place h.2.1 h.2.2]
theorem litR_inj {a b : Rf} (h : (a.tx.map fun b => Lit.int .u8 b.toNat) ++ [Lit.int .i64 a.place] = (b.tx.map fun b => Lit.int .u8 b.toNat) ++ [Lit.int .i64 b.place]) : a = b := by
  obtain ⟨h1, h2⟩ := List.append_inj' h rfl
  obtain ⟨ta, pa⟩ := a
  obtain ⟨tb, pb⟩ := b
  simp only at h1 h2
  have e1 : ta = tb := map_u8_inj h1
  have e2 : pa = pb := by simpa using h2
  rw [e1, e2]
instance : DecidableEq Rf := fun a b => decidable_of_iff (a.tx = b.tx ∧ a.place = b.place) ⟨fun ⟨h, k⟩ => by cases a; cases b; simp only at h k; rw [h, k], fun h => by rw [h]; exact ⟨rfl, rfl⟩⟩
theorem eq_ref (w : World) (a b : Rf) (ha : RfOk a) (hb : RfOk b) : (binOp .eql 37 (.agg (refC a)) (.agg (refC b))).run Tryz.prog w = .ok (.bool (decide (a = b))) w := by
  obtain ⟨r, hr, hi⟩ := run_equalIn_deep 9995 5 37 keyed_ref w 5 5 (.agg (refC a)) (.agg (refC b)) _ _ (formed_ref a ha.1) (formed_ref b hb.1) (lits_ref 2 a ha) (lits_ref 2 b hb)
  have e : r = decide (a = b) := by
    rw [Bool.eq_iff_iff, decide_eq_true_iff, hi]
    exact ⟨litR_inj, fun e => by rw [e]⟩
  subst e
  have hr2 : (Op.equalIn 10000 37 (.agg (refC a)) (.agg (refC b))).run Tryz.prog w = .ok (decide (a = b)) w := hr
  have he : (Op.equal 37 (.agg (refC a)) (.agg (refC b))).run Tryz.prog w = .ok (decide (a = b)) w := hr2
  simp [binOp, go_sem, he]
end Go.Proofs.YtilbbemdinpjcaaGreat.P
namespace Go.Proofs.YtilbbemdinpjcaaGreat.P
set_option maxRecDepth 100000
open Go.RowKit

theorem ot_ad {W : World} {q : Nat} {o : Ot} {t : TypeId} (h : Lies W q (otC o) t) : W.rangeAt q 0 (adC o.prog o.ah).toList := fun j v hj => by
  rw [Nat.zero_add]
  refine h.cell j ?_
  rw [Array.getElem?_toList] at hj
  have hlt := (Array.getElem?_eq_some_iff.1 hj).1
  have e : otC o = adC o.prog o.ah ++ (#[.int .i64 o.v.coin, .slice o.v.pa o.v.l.length o.v.c, .int .i64 o.kind] ++ B8 o.dh ++ #[.slice o.tp o.ns.length o.tc]) := by
    unfold otC adC
    simp only [Array.append_assoc]
  rw [e, Array.getElem?_append_left hlt]
  exact hj
set_option maxHeartbeats 8000000 in
theorem putterOutput_any (w : World) {B g : Nat} {v : Value} {st : Option (List UInt8)} (o : Ot) (hT : Stays g w v fun W => OtOk W o) (hk : o.kind = 2 → ∀ x ∈ o.ns, 1 ≤ x.kind ∧ x.kind ≤ 6) (hi : ∀ x ∈ o.ns, NdIn x) (h : WrO W.WSt w B g v st) (hx : sz st + 123 * cntO o ≤ 700000) :
    Calls Tryz.prog 139 #[.agg #[.pointer (some ⟨g, 0, none⟩)], .agg (otC o)] w (PutR W.WSt w B g v (outS st o)) := by
  have hah := hT.now.ah
  have hdh := hT.now.dh
  have hpol : ∀ a ∈ o.v.l, a.nm.1.length = 32 := fun a ha => (hT.now.v.2.2.2.1 a ha).1
  obtain ⟨ov, hov⟩ : ∃ x, x = otC o := ⟨_, rfl⟩
  rw [← hov]
  have hB := bx_of h ov 35
  obtain ⟨s1, hs1⟩ : ∃ s, s = W.stepB (W.stepB st [if o.prog then 1 else 0]) o.ah := ⟨_, rfl⟩
  have hz1 : sz s1 ≤ sz st + 33 := by
    have k1 := sz_B st [if o.prog then 1 else 0]
    have k2 := sz_B (W.stepB st [if o.prog then 1 else 0]) o.ah
    rw [List.length_singleton] at k1
    rw [hs1]
    omega
  have hO : outS st o = if o.kind = 1 then W.stepB (W.stepN (valS s1 o.v) (W.low64 o.kind) 1) o.dh else if o.kind = 2 then termS (W.stepN (valS s1 o.v) (W.low64 o.kind) 1) o.ns else W.stepN (valS s1 o.v) (W.low64 o.kind) 1 := by rw [hs1]; rfl
  have hz2 := sz_val o.v s1 hpol
  have hz3 := sz_N (valS s1 o.v) (W.low64 o.kind) 1
  have hc1 : 1 ≤ cntV o.v := by unfold cntV; omega
  have hcO : cntO o = cntV o.v + T.cost o.ns := rfl
  have HA : Hid (∀ W0, WrO W.WSt W0 B g v st → Calls Tryz.prog 211 #[.agg #[.pointer (some ⟨g, 0, none⟩)], .agg (adC o.prog o.ah)] W0 (PutR W.WSt W0 B g v s1)) := Lib.hid fun W0 hw => by rw [hs1]; exact putterAddress_any W0 o.prog o.ah hah hw (by omega)
  have HI := Lib.hid (And.intro (show (Tryz.prog.info? 32).map (·.size) = some (adC o.prog o.ah).toList.length by rw [Array.length_toList]; unfold adC; rw [Array.size_append, B8_size, hah]; exact info_address) (show (Tryz.prog.info? 30).map (·.size) = some (B8 o.dh).toList.length by rw [Array.length_toList, B8_size, hdh]; exact info_hashP))
  have H := Lib.hid (And.intro hov (And.intro hT (And.intro hk (And.intro hi (And.intro h (And.intro (show sz s1 + 57 * cntV o.v ≤ 699990 ∧ sz (W.stepN (valS s1 o.v) (W.low64 o.kind) 1) + 26 * T.cost o.ns ≤ 700000 by omega) hO))))))
  have HLL := Lib.hid (And.intro hah hdh)
  obtain ⟨s9, hs9⟩ : ∃ s, s = outS st o := ⟨_, rfl⟩
  rw [← hs9] at H ⊢
  clear hov hT hk hi h hx hah hdh hpol hs1 hz1 hz2 hz3 hc1 hcO hO hs9
  obtain ⟨W0, HW⟩ : ∃ W0, (w.alloc (.cells #[.pointer (some ⟨g, 0, none⟩)] 170)).alloc (.cells ov 35) = W0 := ⟨_, rfl⟩
  go_enter Tryz.func139, Tryz.ntmps139
  go_upto_region 1 with fail
  rw [HW] at hB
  clear HW
  obtain ⟨p, hp⟩ : ∃ p, p = w.heap.size := ⟨_, rfl⟩
  obtain ⟨q, hq⟩ : ∃ q, q = w.heap.size + 1 := ⟨_, rfl⟩
  rw [← hq, ← hp] at hB ⊢
  clear hp hq
  have c0 := hB.lp.cell 0 (v := .pointer (some ⟨g, 0, none⟩)) rfl
  have HR := Lib.hid (ot_ad (show Lies W0 q (otC o) _ by rw [← H.out.1]; exact hB.lq))
  have HC := Lib.hid (HA.out W0 (H.out.2.2.2.2.1.belowW hB.b))
  have HB := Lib.hid hB
  clear hB HA
  go_wp2_with (first
    | (at_builtin; fail)
    | (refine wpList_load_mid rfl 32 _ rfl q 0 rfl (adC o.prog o.ah).toList _ HR.out Tryz.underlying32 rfl HI.out.1 ?_))
  refine HC.out.mono ?_
  rintro e W1 ⟨rfl, u1, hw1, hk1⟩
  obtain ⟨l1, l2⟩ := HB.out.on hk1
  have hl1 := (Lk.of_below HB.out.b (v := v) (g := g)).trans hk1
  have hat := lies_at (show Lies W1 q (otC o) _ by rw [← H.out.1]; exact l2) HLL.out.1 HLL.out.2
  have c0 := l1.cell 0 (v := .pointer (some ⟨g, 0, none⟩)) rfl
  have c33 := hat.coin
  have c34 := hat.assets
  simp only [Nat.zero_add] at c33 c34
  have HC1 := Lib.hid (putterValue_any W1 o.v ((H.out.2.1.on hl1).imp fun W hW => hW.v.2.2) hw1 (by have := H.out.2.2.2.2.2.1; omega))
  unfold vaC vC at HC1
  have HL := Lib.hid (And.intro hk1 hl1)
  clear hw1 hk1 l1 l2 hl1 HC hat HR
  go_wp2_with fail
  refine HC1.out.mono ?_
  rintro e W2 ⟨rfl, u2, hw2, hk2⟩
  have hl2 := HL.out.1.trans hk2
  obtain ⟨l1, l2⟩ := HB.out.on hl2
  have hat := lies_at (show Lies W2 q (otC o) _ by rw [← H.out.1]; exact l2) HLL.out.1 HLL.out.2
  have c0 := l1.cell 0 (v := .pointer (some ⟨g, 0, none⟩)) rfl
  have c35 := hat.kind
  simp only [Nat.zero_add] at c35
  have hz2 := sz_val o.v s1 (fun a ha => (H.out.2.1.now.v.2.2.2.1 a ha).1)
  have HC2 := Lib.hid (wU8 W2 o.kind hw2 (by have := H.out.2.2.2.2.2.1; omega))
  have HL2 := Lib.hid (And.intro hl2 (HL.out.2.trans hk2))
  clear hw2 hk2 l1 l2 hl2 HC1 hat c33 c34 hz2
  go_wp2_with fail
  refine HC2.out.mono ?_
  rintro e W3 ⟨rfl, u3, hw3, hk3⟩
  have hl3 := HL2.out.1.trans hk3
  have hf3 := HL2.out.2.trans hk3
  obtain ⟨l1, l2⟩ := HB.out.on hl3
  have hat := lies_at (show Lies W3 q (otC o) _ by rw [← H.out.1]; exact l2) HLL.out.1 HLL.out.2
  have c0 := l1.cell 0 (v := .pointer (some ⟨g, 0, none⟩)) rfl
  have c35 := hat.kind
  have c68 := hat.term
  have HD := Lib.hid hat.dh
  simp only [Nat.zero_add] at c35 c68
  have HW3 := Lib.hid (And.intro hw3 hf3)
  obtain ⟨kd, hkd⟩ : ∃ k, k = o.kind := ⟨_, rfl⟩
  rw [← hkd] at c35
  have HKD := Lib.hid hkd
  clear hw3 hk3 l1 l2 hl3 hf3 HC2 hat hkd
  by_cases k1 : kd = 1
  · have HC3 := Lib.hid (wHash W3 o.dh HLL.out.2 HW3.out.1 (by have := H.out.2.2.2.2.2.1; omega))
    have HS := Lib.hid (show s9 = W.stepB (W.stepN (valS s1 o.v) (W.low64 o.kind) 1) o.dh by have := H.out.2.2.2.2.2.2; rw [this, if_pos (by rw [← HKD.out]; exact k1)])
    go_wp2_with (first
      | (at_builtin; fail)
      | (refine wpList_load_mid rfl 30 _ rfl q 36 rfl (B8 o.dh).toList _ HD.out Tryz.underlying30 rfl HI.out.2 ?_))
    refine HC3.out.mono ?_
    rintro e W4 hr
    obtain ⟨rfl, hr⟩ := hr
    have HE := Lib.hid hr
    clear hr c0 c35 c68 HC3
    go_wp2_with fail
    go_end0
    rw [HS.out]
    exact PutR.on HW3.out.2 ⟨rfl, HE.out⟩
  · by_cases k2 : kd = 2
    · have HC3 := Lib.hid (putterTerm_any W3 o.tp o.tc o.ns ((H.out.2.1.on HW3.out.2).imp fun W hW => hW.t) (H.out.2.2.1 (by rw [← HKD.out]; exact k2)) H.out.2.2.2.1 HW3.out.1 H.out.2.2.2.2.2.1.2)
      have HS := Lib.hid (show s9 = termS (W.stepN (valS s1 o.v) (W.low64 o.kind) 1) o.ns by have := H.out.2.2.2.2.2.2; rw [this, if_neg (by rw [← HKD.out]; exact k1), if_pos (by rw [← HKD.out]; exact k2)])
      go_wp2_with fail
      refine HC3.out.mono ?_
      rintro e W4 hr
      obtain ⟨rfl, hr⟩ := hr
      have HE := Lib.hid hr
      clear hr c0 c35 c68 HC3
      go_wp2_with fail
      go_end0
      rw [HS.out]
      exact PutR.on HW3.out.2 ⟨rfl, HE.out⟩
    · have HS := Lib.hid (show s9 = W.stepN (valS s1 o.v) (W.low64 o.kind) 1 by have := H.out.2.2.2.2.2.2; rw [this, if_neg (by rw [← HKD.out]; exact k1), if_neg (by rw [← HKD.out]; exact k2)])
      go_wp2_with fail
      go_end0
      rw [HS.out]
      exact PutR.end_ HW3.out.1 HW3.out.2
end Go.Proofs.YtilbbemdinpjcaaGreat.P
