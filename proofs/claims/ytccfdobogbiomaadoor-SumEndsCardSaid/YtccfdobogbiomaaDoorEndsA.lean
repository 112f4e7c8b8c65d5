/-
  SumEnds.
-/
import Derived.Test.YtccfdobogbiomaaDoorEnds
import Derived.Test.YtccfdobogbiomaaDoorKnown
import Derived.Test.YtccfdobogbiomaaDoorParts
import Derived.Test.YtccfdobogbiomaaDoorAwake
import Derived.Deep.RegionHeld3
namespace Go.Proofs.YtccfdobogbiomaaDoor
open Go.RowKit Sha

/-- The memory's tables stand in every world behind the first. -/
def Tabs (w : World) : Prop := Starts w ∧ Cubes w
theorem Tabs.below {w w' : World} (h : Tabs w) (hb : Below w.heap.size w w') : Tabs w' := by
  have := Lies.lt h.2
  exact ⟨Lies.below h.1 hb (by omega), Lies.below h.2 hb this⟩
/-- A row of bytes that a call may read in every world from here on. -/
def Part8 (w : World) (p : Part) : Prop := Good w p ∧ (p.at_ = none → p.cap = 0)
theorem of_part {w : World} {p : Part} (h : Part8 w p) (ht : Tabs w) (hx : p.xs.length ≤ 1000000) (W : World) (hb : Below w.heap.size w W) :
    Calls Tryd.prog 10 #[.slice (some ⟨W.heap.size, 0, none⟩) 1 1] (W.alloc (.cells #[p.val] 38)) fun e w' => e = .returned (.agg (B8 (sha p.xs))) ∧ Below W.heap.size W w' := by
  obtain ⟨pa, xs, pc⟩ := p
  exact of_bytes W pa xs pc hx (h.1.below hb) (ht.below hb).1 (ht.below hb).2
theorem one_part {w : World} {p : Part} (h : Part8 w p) (hx : p.xs.length ≤ 1000000) (W : World) (hb : Below w.heap.size w W) :
    Calls Tryd.prog 17 #[p.val] W fun e w' => e = .returned (.agg (B8 (sha p.xs))) ∧ Below W.heap.size W w' := by
  obtain ⟨pa, xs, pc⟩ := p
  exact one_any pa xs pc W hx (h.1.below hb) h.2
theorem of_parts2 {w : World} {p q : Part} (hp : Good w p) (hq : Good w q) (ht : Tabs w) (hx : (p.xs ++ q.xs).length ≤ 1000000) (W : World) (hb : Below w.heap.size w W) :
    Calls Tryd.prog 10 #[.slice (some ⟨W.heap.size, 0, none⟩) 2 2] (W.alloc (.cells #[p.val, q.val] 38)) fun e w' => e = .returned (.agg (B8 (sha (p.xs ++ q.xs)))) ∧ Below W.heap.size W w' := by
  have hb2 : Below W.heap.size W (W.alloc (.cells #[p.val, q.val] 38)) := (Below.refl _ _).alloc (Nat.le_refl _) _
  have t1 : (W.alloc (.cells #[p.val, q.val] 38)).heap[W.heap.size]? = some (.cells #[p.val, q.val] 38 (0, 0)) := Go.heap_alloc_new W _
  generalize W.alloc (.cells #[p.val, q.val] 38) = V at hb2 t1 ⊢
  have hm : (2 : Nat) ≤ maxLen := by unfold maxLen; omega
  have hj : joined [p, q] = p.xs ++ q.xs := by simp [joined]
  have hbv : Below w.heap.size w V := hb.trans (hb2.mono hb.size)
  have main := of_any [p, q] V (some ⟨W.heap.size, 0, none⟩) 2 hm ?_ ?_ (by rw [hj]; exact hx) (ht.below hbv).1 (ht.below hbv).2
  · rw [hj] at main
    exact main.mono fun e w' hh => ⟨hh.1, hb2.trans (hh.2.mono hb2.size)⟩
  · intro r hr
    simp only [List.mem_cons, List.not_mem_nil, or_false] at hr
    rcases hr with rfl | rfl
    · exact hp.below hbv
    · exact hq.below hbv
  · intro _
    refine ⟨_, _, rfl, Lies.lt t1, fun j hj => ?_⟩
    have h2 : j = 0 ∨ j = 1 := by simp at hj; omega
    rcases h2 with rfl | rfl
    · exact cell_of_row V _ 0 _ _ _ t1
    · have := cell_of_row V _ 1 _ _ _ t1
      simpa using this
theorem BL.part {w0 w : World} {nb nl : Nat} {g c : Nat} {vl : Value} (h : BL w0 nb nl (.slice (some ⟨g, 0, none⟩) nb c) vl w) : Part8 w ⟨some ⟨g, 0, none⟩, seqB nb, c⟩ :=
  ⟨AtQ.good (w0 := w0) (by rw [seqB_length]; exact h.1), fun e => by cases e⟩
theorem AtHs.src {w0 : World} {k : Nat} {l : List UInt8} {v : Value} {w : World} (h : AtHs w0 k l v w) : ∃ A c, v = .slice A k c ∧ k ≤ c ∧ c ≤ maxLen ∧ (0 < k → ∃ g off, A = some ⟨g, off, none⟩ ∧ g < w.heap.size ∧ Src w g off l) := by
  by_cases hk : 0 < k
  · obtain ⟨g, c, rfl⟩ := h.shape hk
    obtain ⟨r1, r2, r3, _⟩ := h.room
    refine ⟨_, c, rfl, r1, r2, fun _ => ⟨g, 0, rfl, r3, fun j hj => ?_⟩⟩
    have := h.1.cells (g := g) rfl j _ (by rw [Array.getElem?_toList, B8_get l j hj])
    rwa [Addr.add_mid] at this
  · obtain rfl : k = 0 := by omega
    rcases h.1.2 with ⟨rfl, _⟩ | ⟨g, cap, cur, rfl, _, _, r1, r2, _⟩
    · exact ⟨none, 0, rfl, Nat.le_refl _, Nat.zero_le _, fun h => absurd h (by omega)⟩
    · exact ⟨_, cap, rfl, r1, r2, fun h => absurd h (by omega)⟩
theorem good_range {w : World} {g : Nat} {xs : List UInt8} {c : Nat} (h : Good w ⟨some ⟨g, 0, none⟩, xs, c⟩) (a d : Nat) (had : a + d ≤ xs.length) : Good w ⟨some ⟨g, a, none⟩, (xs.drop a).take d, c - a⟩ := by
  by_cases h0 : 0 < xs.length
  · obtain ⟨g', off, e, hg, hs⟩ := h.2.2 h0
    cases e
    have := good_cut h a d had hg hs
    rwa [Nat.zero_add] at this
  · have hx : xs = [] := List.eq_nil_of_length_eq_zero (by omega)
    subst hx
    simp only [List.drop_nil, List.take_nil]
    exact good_none _ _ _ (by have := h.2.1; simp only at this; omega)
end Go.Proofs.YtccfdobogbiomaaDoor
