/-
  A row of Puts as plain data: what stands in the cells.
-/
import Derived.Test.YtjbjagdpemnhiaaGreatWantSt
import Derived.Test.YtjbjagdpemnhiaaGreatPutIn
import Derived.Deep.Slices
import Derived.ChangeSlices
namespace Go.Proofs.YtjbjagdpemnhiaaGreat
open Go.ChangeShapes Go.WideShapes Go.ChangeAt Go.RowKit Go.Deep

structure PutD where
  n0 : Int
  n1 : Int
  n2 : Nat
  hs : List UInt8
  bv : Value
  xs : List UInt8
  s : ByteArray
def PutD.cells (p : PutD) : Array Value := #[.int .i64 p.n0, .int .i64 p.n1, .int .u64 p.n2] ++ B8 p.hs ++ #[p.bv, .string p.s]
structure PutD.Ok (p : PutD) (W : World) : Prop where
  hlen : p.hs.length = 32
  wlt : p.n2 < 18446744073709551616
  lo : -9223372036854775808 ≤ p.n1
  hi : p.n1 < 9223372036854775808
  slen : p.s.size ≤ maxLen
  raw : RawIn W p.bv p.xs
  xlen : p.xs.length ≤ 140737488355328
theorem PutD.size {p : PutD} {W : World} (h : p.Ok W) : p.cells.size = 37 := by
  simp [PutD.cells, B8_size, h.hlen]
theorem PutD.v {p : PutD} {W : World} (h : p.Ok W) : PutV p.cells p.n0 p.n1 p.n2 p.hs p.bv p.s := by
  have h32 := h.hlen
  refine ⟨PutD.size h, ?_, ?_, ?_, h.wlt, ?_, h.hlen, ?_, ?_, ?_⟩
  · simp [PutD.cells, Array.getElem?_append]
  · simp [PutD.cells, Array.getElem?_append]
  · simp [PutD.cells, Array.getElem?_append]
  · simp [PutD.cells, B8, h32]
  · simp [PutD.cells, B8, h32]
  · simp [PutD.cells, B8, h32]
  · have := h.slen; unfold maxLen at this; omega
/-- The row of Puts lies there. -/
def PRow (W : World) (g off : Nat) (ps : List PutD) : Prop := ∀ i p, ps[i]? = some p → p.Ok W ∧ ∀ j v, p.cells[j]? = some v → W.cell? ⟨g, off + (i * 37 + j), none⟩ = some v

theorem cut37 (l : List Value) (h : l.length = 37) :
    l = (l.drop 0).take 1 ++ ((l.drop 1).take 1 ++ ((l.drop 2).take 1 ++ ((l.drop 3).take 32 ++ ((l.drop 35).take 1 ++ (l.drop 36).take 1)))) := by
  have st : ∀ a k, l.drop a = (l.drop a).take k ++ l.drop (a + k) := fun a k => by rw [← List.drop_drop, List.take_append_drop]
  have e36 : l.drop 36 = (l.drop 36).take 1 := by rw [List.take_of_length_le]; simp; omega
  exact (st 0 1).trans (congrArg ((l.drop 0).take 1 ++ ·) ((st 1 1).trans (congrArg ((l.drop 1).take 1 ++ ·) ((st 2 1).trans (congrArg ((l.drop 2).take 1 ++ ·) ((st 3 32).trans (congrArg ((l.drop 3).take 32 ++ ·) ((st 35 1).trans (congrArg ((l.drop 35).take 1 ++ ·) e36)))))))))
theorem list_of {α : Type} (z : α) (P : Nat → α → Prop) : ∀ n, (∀ j, j < n → ∃ b, P j b) → ∃ l : List α, l.length = n ∧ ∀ j, j < n → P j (l.getD j z)
  | 0, _ => ⟨[], rfl, fun j hj => absurd hj (by omega)⟩
  | n + 1, h => by
    obtain ⟨l, hl, hp⟩ := list_of z P n (fun j hj => h j (by omega))
    obtain ⟨b, hb⟩ := h n (by omega)
    refine ⟨l ++ [b], by simp [hl], fun j hj => ?_⟩
    by_cases hjn : j < n
    · have := hp j hjn
      rw [List.getD_eq_getElem?_getD, List.getElem?_append_left (by omega), ← List.getD_eq_getElem?_getD]
      exact this
    · obtain rfl : j = n := by omega
      rw [List.getD_eq_getElem?_getD, List.getElem?_append_right (by omega)]
      simpa [hl] using hb
theorem bounds_byte {z : Int} (h : (Lit.int .u8 z).wf = true) : 0 ≤ z ∧ z < 256 := by
  have hmin : IntKind.u8.min = 0 := rfl
  have hmax : IntKind.u8.max = 255 := rfl
  simp only [Lit.wf, Bool.and_eq_true, decide_eq_true_eq] at h
  omega
theorem byte_of {z : Int} (h : (Lit.int .u8 z).wf = true) : ∃ b : UInt8, z = (b.toNat : Int) := by
  have hb := bounds_byte h
  refine ⟨UInt8.ofNat z.toNat, ?_⟩
  rw [UInt8.toNat_ofNat_of_lt' (by show z.toNat < 256; omega)]
  omega
theorem word_of {a : Int} (h : (Lit.int .u64 a).wf = true) : ∃ n : Nat, a = (n : Int) ∧ n < 18446744073709551616 := by
  have hmin : IntKind.u64.min = 0 := rfl
  have hmax : IntKind.u64.max = 18446744073709551615 := rfl
  simp only [Lit.wf, Bool.and_eq_true, decide_eq_true_eq] at h
  exact ⟨a.toNat, by omega, by omega⟩
theorem int_of {a : Int} (h : (Lit.int .i64 a).wf = true) : -9223372036854775808 ≤ a ∧ a < 9223372036854775808 := by
  have hmin : IntKind.i64.min = -9223372036854775808 := rfl
  have hmax : IntKind.i64.max = 9223372036854775807 := rfl
  simp only [Lit.wf, Bool.and_eq_true, decide_eq_true_eq] at h
  omega
theorem cells5 : Tryz.prog.cellsOf 5 = 1 := by kernel_rfl
theorem cells33 : Tryz.prog.cellsOf 25 = 32 := by kernel_rfl
section
variable {H : Type} {enc : TypeId × Value → H} {W : World}
/-- Bytes as they come in. -/
theorem bytes_in {fuel : Nat} {cs : List Value} {x : DataW H × List MemPlace} (hf : DataW.trod enc Tryz.prog W 0 (fun _ => true) true fuel 26 cs = some x) :
    ∃ (bv : Value) (xs : List UInt8), cs = [bv] ∧ RawIn W bv xs ∧ (xs.length = 0 ∨ ∃ elems spare : List (DataW H), x.1 = .slice elems spare ∧ elems.length = xs.length) := by
  rcases open_ints Tryz.underlying26 Tryz.underlying5 cells5 hf with ⟨hcs, _⟩ | ⟨a, len, cap, zs, hcs, _, hl, hm, hz, hx, hcell, hwz⟩
  · exact ⟨_, [], hcs, .inl ⟨rfl, rfl⟩, .inl rfl⟩
  · simp only [if_true] at hz
    have hbyte : ∀ j, j < len → ∃ b : UInt8, zs.getD j 0 = (b.toNat : Int) := fun j hj => byte_of (hwz _ (by
      rw [List.getD_eq_getElem?_getD, List.getElem?_eq_getElem (by omega)]
      exact List.getElem_mem _))
    obtain ⟨xs, hxl, hxs⟩ := list_of (0 : UInt8) (fun j b => zs.getD j 0 = (b.toNat : Int)) len hbyte
    subst hxl
    refine ⟨_, xs, hcs, .inr ⟨a, cap, rfl, fun j u hu => ?_⟩, .inr ⟨_, _, by rw [hx], by simp [lits]; omega⟩⟩
    have hj := (List.getElem?_eq_some_iff.1 hu).1
    rw [Array.length_toList, B8_size] at hj
    rw [Array.getElem?_toList, B8_get xs j hj, ← hxs j hj] at hu
    rw [← hu]
    exact hcell j (by omega)
theorem hash_in {fuel : Nat} {cs : List Value} {x : DataW H × List MemPlace} (hf : DataW.trod enc Tryz.prog W 0 (fun _ => true) true fuel 25 cs = some x) :
    ∃ hs : List UInt8, hs.length = 32 ∧ cs = (B8 hs).toList := by
  obtain ⟨ys, k, _, _, hlen, hyl, hy⟩ := DataW.trod_array Tryz.underlying25 hf
  rw [cells33] at hlen
  have hb : ∀ j, j < 32 → ∃ b : UInt8, cs[j]? = some (.int .u8 b.toNat) := by
    intro j hj
    have h1 := hy j hj
    rw [cells5, Nat.mul_one] at h1
    have hone : (cs.drop j).take 1 = [cs[j]'(by omega)] := by
      rw [List.drop_eq_getElem_cons (by omega)]; rfl
    rw [hone, List.getElem?_eq_getElem (by omega)] at h1
    obtain ⟨z, hz, _, hwf⟩ := DataW.trod_int Tryz.underlying5 h1
    obtain ⟨b, hb⟩ := byte_of hwf
    exact ⟨b, by rw [List.getElem?_eq_getElem (by omega), (List.cons.inj hz).1, hb]⟩
  obtain ⟨hs, hl, hh⟩ := list_of (0 : UInt8) (fun j b => cs[j]? = some (.int .u8 b.toNat)) 32 hb
  refine ⟨hs, hl, ?_⟩
  apply List.ext_getElem?
  intro j
  by_cases hj : j < 32
  · rw [hh j hj, Array.getElem?_toList, B8_get hs j (by omega)]
  · rw [List.getElem?_eq_none (by omega), List.getElem?_eq_none (by rw [Array.length_toList, B8_size]; omega)]
theorem weights_in {P : Program} {e : TypeId} {d : DataW H} {n : Nat} (hn : n ∈ d.weights P e) : ∀ {l : List (DataW H)}, d ∈ l → n ∈ DataW.weightsAll P e l
  | [], h => by cases h
  | x :: l, h => by
    unfold DataW.weightsAll
    rcases List.mem_cons.1 h with rfl | h
    · exact List.mem_append_left _ hn
    · exact List.mem_append_right _ (weights_in hn h)
theorem bytes5 : Tryz.prog.bytesOf 5 = 1 := by kernel_rfl
theorem put_in {fuel : Nat} {cs : List Value} {x : DataW H × List MemPlace} (hf : DataW.trod enc Tryz.prog W 0 (fun _ => true) true fuel 28 cs = some x) (hreach : ∀ n ∈ x.1.weights Tryz.prog 28, n ≤ reachBytes) :
    ∃ p : PutD, p.Ok W ∧ cs = p.cells.toList := by
  obtain ⟨ys, n, _, hx, hlen, hyl, hg⟩ := DataW.trod_struct Tryz.underlying28 hf
  rw [size35] at hlen
  have hyl6 : ys.length = 6 := hyl
  have at_ := fun (j : Nat) (f : Field) (hj : j < 6) hfj => (hg j f hfj).trans (List.getElem?_eq_getElem (show j < ys.length by omega))
  obtain ⟨n0, e0, _, w0⟩ := DataW.trod_int Tryz.underlying3 (at_ 0 _ (by omega) rfl)
  obtain ⟨n1, e1, _, w1⟩ := DataW.trod_int Tryz.underlying3 (at_ 1 _ (by omega) rfl)
  obtain ⟨n2, e2, _, w2⟩ := DataW.trod_int Tryz.underlying23 (at_ 2 _ (by omega) rfl)
  obtain ⟨hs, hl, e3⟩ := hash_in (at_ 3 _ (by omega) rfl)
  obtain ⟨bv, xs, e4, hraw, hxw⟩ := bytes_in (at_ 4 _ (by omega) rfl)
  obtain ⟨s, e5, _, hsl⟩ := DataW.trod_string Tryz.underlying9 (at_ 5 _ (by omega) rfl)
  obtain ⟨m2, rfl, hm2⟩ := word_of w2
  have hxl : xs.length ≤ 140737488355328 := by
    rcases hxw with h | ⟨elems, spare, e, he⟩
    · omega
    · have hw : (elems.length + spare.length) * 1 ∈ (ys[4].1).weights Tryz.prog 26 := by
        rw [e, DataW.weights, Tryz.underlying26]
        simp only [bytes5]
        exact List.mem_cons_self
      have := hreach _ (by
        rw [hx, DataW.weights, Tryz.underlying28]
        exact DataW.weights_mem_each (j := 4) rfl (by rw [List.getElem?_map, List.getElem?_eq_getElem (by omega)]; rfl) _ hw)
      have hr : reachBytes = 140737488351232 := rfl
      omega
  obtain ⟨hlo, hhi⟩ := int_of w1
  refine ⟨⟨n0, n1, m2, hs, bv, xs, s⟩, ⟨hl, hm2, hlo, hhi, hsl, hraw, hxl⟩, ?_⟩
  have hc3 : Tryz.prog.cellsOf 3 = 1 := by kernel_rfl
  have hc31 : Tryz.prog.cellsOf 23 = 1 := by kernel_rfl
  have hc28 : Tryz.prog.cellsOf 26 = 1 := by kernel_rfl
  have hc9 : Tryz.prog.cellsOf 9 = 1 := by kernel_rfl
  have f0 : (cs.drop 0).take (Tryz.prog.cellsOf 3) = [.int .i64 n0] := e0
  have f1 : (cs.drop 1).take (Tryz.prog.cellsOf 3) = [.int .i64 n1] := e1
  have f2 : (cs.drop 2).take (Tryz.prog.cellsOf 23) = [.int .u64 m2] := e2
  have f3 : (cs.drop 3).take (Tryz.prog.cellsOf 25) = (B8 hs).toList := e3
  have f4 : (cs.drop 35).take (Tryz.prog.cellsOf 26) = [bv] := e4
  have f5 : (cs.drop 36).take (Tryz.prog.cellsOf 9) = [.string s] := e5
  rw [hc3] at f0 f1
  rw [hc31] at f2
  rw [cells33] at f3
  rw [hc28] at f4
  rw [hc9] at f5
  rw [cut37 cs hlen, f0, f1, f2, f3, f4, f5]
  simp [PutD.cells]
/-- A row of Puts as it comes in. -/
theorem open_puts {b0 : Nat} {v : Value} {d : DataW H} {p : List MemPlace} {t : TypeId} (hu : Tryz.prog.underlying t = some (.slice 28)) (hv : Value.okWide Tryz.prog W .any b0 t v) (h : DataW.Trod enc Tryz.prog W 0 (fun _ => true) true t v d p) (hreach : ∀ n ∈ d.weights Tryz.prog t, n ≤ reachBytes) :
    ∃ (va : Option Addr) (ps : List PutD) (cap : Nat), v = .slice va ps.length cap ∧ ps.length ≤ cap ∧ cap ≤ 140737488355328 ∧ (0 < ps.length → ∃ g off, va = some ⟨g, off, none⟩ ∧ g < W.heap.size ∧ PRow W g off ps) := by
  obtain ⟨a0, len, cap, rfl⟩ := okWide_slice hu hv
  obtain ⟨fuel, hf⟩ := h
  rcases open_slice hu hf with ⟨hcs, _⟩ | ⟨a, len', cap', m, n, D, Pl, hcs, _, hl, hm, hmm, hx, hi⟩
  · simp only [Value.cells, List.cons.injEq, Value.slice.injEq, and_true] at hcs
    obtain ⟨rfl, rfl, rfl⟩ := hcs
    exact ⟨none, [], 0, rfl, Nat.le_refl _, Nat.zero_le _, fun h => absurd h (by simp)⟩
  · simp only [Value.cells, List.cons.injEq, Value.slice.injEq, and_true] at hcs
    obtain ⟨rfl, rfl, rfl⟩ := hcs
    simp only [if_true] at hmm
    subst hmm
    have hd : d = .slice ((List.range len).map D) ((List.range (m - len)).map fun j => D (len + j)) := (Prod.mk.inj hx).1
    have hr : reachBytes = 140737488351232 := rfl
    have hcapr : m ≤ 140737488355328 := by
      have hb : Tryz.prog.bytesOf 28 = 96 := by kernel_rfl
      have := hreach ((((List.range len).map D).length + ((List.range (m - len)).map fun j => D (len + j)).length) * 96) (by
        rw [hd, DataW.weights, hu]
        simp only [hb]
        exact List.mem_cons_self)
      simp only [List.length_map, List.length_range] at this
      omega
    have each : ∀ i, i < len → ∃ q : PutD, q.Ok W ∧ ∀ j v, q.cells[j]? = some v → W.cell? (a.add (i * 37 + j)) = some v := by
      intro i hil
      obtain ⟨cs', hc, ht⟩ := hi i (by omega)
      rw [size35] at hc
      obtain ⟨_, hcl, hat⟩ := World.cells?_some hc
      obtain ⟨q, hq, rfl⟩ := put_in ht (fun n hn => hreach n (by
        rw [hd, DataW.weights, hu]
        exact List.mem_cons_of_mem _ (List.mem_append_left _ (weights_in hn (List.mem_map.2 ⟨i, List.mem_range.2 hil, rfl⟩)))))
      refine ⟨q, hq, fun j v hj => ?_⟩
      have hj37 : j < 37 := by
        have := (Array.getElem?_eq_some_iff.1 hj).1
        rwa [PutD.size hq] at this
      rw [← Go.Deep.add_add, hat j hj37, Array.getElem?_toList, hj]
    obtain ⟨ps, hpl, hps⟩ := list_of (⟨0, 0, 0, [], .bool false, [], ⟨#[]⟩⟩ : PutD) (fun i q => q.Ok W ∧ ∀ j v, q.cells[j]? = some v → W.cell? (a.add (i * 37 + j)) = some v) len each
    subst hpl
    refine ⟨some a, ps, _, rfl, hl, hcapr, fun hpos => ?_⟩
    obtain ⟨b, off, spot⟩ := a
    have h0 := (hps 0 hpos).2 0 _ ((hps 0 hpos).1 |> PutD.v).what
    have hspot : spot = none := by simpa [Addr.add] using World.cell?_spot h0
    subst hspot
    refine ⟨b, off, rfl, block_lt h0, fun i q hq => ?_⟩
    have hil := (List.getElem?_eq_some_iff.1 hq).1
    have e : ps.getD i ⟨0, 0, 0, [], .bool false, [], ⟨#[]⟩⟩ = q := by rw [List.getD_eq_getElem?_getD, hq]; rfl
    have := hps i hil
    rw [e] at this
    refine ⟨this.1, fun j v hj => ?_⟩
    have h2 := this.2 j v hj
    rwa [Addr.add_mid] at h2
end
end Go.Proofs.YtjbjagdpemnhiaaGreat
