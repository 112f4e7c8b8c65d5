/-
  A signature by value as plain data.
-/
import Derived.Test.YtgempifedhiknaaDoorWdata
import Derived.Test.YtgempifedhiknaaDoorWowns
namespace Go.Proofs.YtgempifedhiknaaDoor
open Go.ChangeShapes Go.WideShapes Go.ChangeAt Go.RowKit Go.Deep Sha

theorem cell_slice {W : World} {base : Nat} {t e : TypeId} {v : Value} (ht : Tryd.prog.underlying t = some (.slice e)) (h : Cell.okWide Tryd.prog W .any base t v) : ∃ a l c, v = .slice a l c := by
  simp only [Cell.okWide, ht] at h
  cases v <;> simp_all [Cell.ok]
section
variable {H : Type} {enc : TypeId × Value → H} {W : World}
theorem open_hashes {a0 : Option Addr} {len cap : Nat} {v : Value} {d : DataW H} {p : List MemPlace} (hv : v = .slice a0 len cap) (h : DataW.Trod enc Tryd.prog W 0 (fun _ => true) true 22 v d p) :
    ∃ (lv : Option Addr) (m lc : Nat) (F : List UInt8), v = .slice lv m lc ∧ F.length = 32 * m ∧ m ≤ lc ∧ lc ≤ maxLen ∧ (0 < m → ∃ g off, lv = some ⟨g, off, none⟩ ∧ g < W.heap.size ∧ Src W g off F) := by
  subst hv
  obtain ⟨fuel, hf⟩ := h
  rcases open_slice Tryd.underlying22 hf with ⟨hcs, hx⟩ | ⟨a, len', cap', m, n, D, Pl, hcs, _, hl, hm, hmm, hx, hi⟩
  · simp only [Value.cells, List.cons.injEq, Value.slice.injEq, and_true] at hcs
    obtain ⟨rfl, rfl, rfl⟩ := hcs
    exact ⟨none, 0, 0, [], rfl, rfl, Nat.le_refl _, Nat.zero_le _, fun h => absurd h (by simp)⟩
  · simp only [Value.cells, List.cons.injEq, Value.slice.injEq, and_true] at hcs
    obtain ⟨rfl, rfl, rfl⟩ := hcs
    simp only [if_true] at hmm
    subst hmm
    -- each byte of each hash
    have hcell : ∀ i, i < m → ∀ j, j < 32 → ∃ b : UInt8, W.cell? ((a.add (i * 32)).add j) = some (.int .u8 b.toNat) := by
      intro i him j hj
      obtain ⟨cs', hc, ht⟩ := hi i him
      rw [cells26] at hc
      obtain ⟨_, hcl, hat⟩ := World.cells?_some hc
      obtain ⟨ys, k, _, _, hlen, hyl, hy⟩ := DataW.trod_array Tryd.underlying26 ht
      have h1 := hy j hj
      rw [cells5, Nat.mul_one] at h1
      have hone : (cs'.drop j).take 1 = [cs'[j]'(by omega)] := by
        rw [List.drop_eq_getElem_cons (by omega)]; rfl
      rw [hone, List.getElem?_eq_getElem (by omega)] at h1
      obtain ⟨z, hz, _, hwf⟩ := DataW.trod_int Tryd.underlying5 h1
      obtain ⟨b, hb⟩ := byte_of hwf
      refine ⟨b, ?_⟩
      rw [hat j hj, List.getElem?_eq_getElem (by omega), (List.cons.inj hz).1, hb]
    by_cases hp : 0 < len
    · have h0 := hcell 0 (by omega) 0 (by omega)
      obtain ⟨b, off, spot⟩ := a
      have hspot : spot = none := by
        obtain ⟨_, h0⟩ := h0
        simpa [Addr.add] using World.cell?_spot h0
      subst hspot
      have hall : ∀ j, j < 32 * len → ∃ x : UInt8, W.cell? ⟨b, off + j, none⟩ = some (.int .u8 x.toNat) := by
        intro j hj
        obtain ⟨x, hx⟩ := hcell (j / 32) (by omega) (j % 32) (by omega)
        refine ⟨x, ?_⟩
        rw [addr_add, addr_add] at hx
        have e : off + j / 32 * 32 + j % 32 = off + j := by omega
        rw [e] at hx
        exact hx
      obtain ⟨F, hF, hFs⟩ := list_of (0 : UInt8) (fun j x => W.cell? ⟨b, off + j, none⟩ = some (.int .u8 x.toNat)) (32 * len) hall
      refine ⟨some ⟨b, off, none⟩, len, _, F, rfl, hF, hl, hm, fun _ => ⟨b, off, rfl, ?_, fun j hj => hFs j (by omega)⟩⟩
      obtain ⟨x, hx⟩ := hall 0 (by omega)
      exact World.block_lt_of_cell? W ⟨b, off + 0, none⟩ hx
    · obtain rfl : len = 0 := by omega
      exact ⟨some a, 0, _, [], rfl, rfl, Nat.zero_le _, hm, fun h => absurd h (by simp)⟩
end
theorem slice_neat {H : Type} {enc : TypeId × Value → H} {W : World} {lv : Option Addr} {m lc : Nat} {d : DataW H} {p : List MemPlace} (h : DataW.Trod enc Tryd.prog W 0 (fun _ => true) true 22 (.slice lv m lc) d p) : lv = none → m = 0 ∧ lc = 0 := by
  obtain ⟨fuel, hf⟩ := h
  rcases open_slice Tryd.underlying22 hf with ⟨hcs, _⟩ | ⟨a, len', cap', _, _, _, _, hcs, _⟩
  · simp only [Value.cells, List.cons.injEq, Value.slice.injEq, and_true] at hcs
    exact fun _ => hcs.2
  · simp only [Value.cells, List.cons.injEq, Value.slice.injEq, and_true] at hcs
    intro e
    rw [e] at hcs
    cases hcs.1

theorem cells24 : Tryd.prog.cellsOf 24 = 1 := by kernel_rfl
theorem leaf24 : Tryd.prog.cellTypes Tryd.prog.depth 24 = some [22] := by kernel_rfl
theorem open_sig {H : Type} {enc : TypeId × Value → H} {W : World} {b0 : Nat} {v : Value} {d : DataW H} {p : List MemPlace} (hv : Value.okWide Tryd.prog W .any b0 24 v) (h : DataW.Trod enc Tryd.prog W 0 (fun _ => true) true 24 v d p) :
    ∃ (lv : Option Addr) (m lc : Nat) (F : List UInt8), v = .agg #[.slice lv m lc] ∧ F.length = 32 * m ∧ m ≤ lc ∧ lc ≤ maxLen ∧ (lv = none → m = 0 ∧ lc = 0) ∧ (0 < m → ∃ g off, lv = some ⟨g, off, none⟩ ∧ g < W.heap.size ∧ Src W g off F) := by
  simp only [Value.okWide, Tryd.underlying24] at hv
  obtain ⟨cs, rfl, hsz, ts, hts, _, hc⟩ := hv
  rw [leaf24] at hts
  cases hts
  rw [cells24] at hsz
  obtain ⟨u', hu', hk⟩ := hc 0 cs[0] (Array.getElem?_eq_getElem (by omega))
  simp at hu'
  subst hu'
  obtain ⟨lv, m, lc, h0⟩ := cell_slice Tryd.underlying22 hk
  have hcs : cs = #[.slice lv m lc] := by
    apply Array.ext
    · simp [hsz]
    · intro i h1 h2
      have : i = 0 := by omega
      subst this
      simpa using h0
  subst hcs
  obtain ⟨fuel, hf⟩ := h
  obtain ⟨xs, n, _, _, _, hxs, hfi⟩ := DataW.trod_struct Tryd.underlying24 hf
  have h1 := hfi 0 _ rfl
  have hlen : 0 < xs.length := by rw [hxs]; decide
  obtain ⟨x0, hx0⟩ : ∃ x0, xs[0]? = some x0 := ⟨_, List.getElem?_eq_getElem hlen⟩
  rw [hx0] at h1
  have h2 : DataW.Trod enc Tryd.prog W 0 (fun _ => true) true 22 (.slice lv m lc) x0.1 x0.2 := ⟨n, h1⟩
  obtain ⟨lv', m', lc', F, he, hF, hl1, hl2, hsr⟩ := open_hashes rfl h2
  cases he
  exact ⟨lv, m, lc, F, rfl, hF, hl1, hl2, slice_neat h2, hsr⟩
end Go.Proofs.YtgempifedhiknaaDoor
