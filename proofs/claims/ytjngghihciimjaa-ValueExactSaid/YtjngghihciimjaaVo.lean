/-
  What an asset is called, as it lies in memory; of two names, which stands ahead.
-/
import Derived.Test.YtjngghihciimjaaVc
import Derived.Below
import Derived.Laws.Rows
import Derived.Deep.MidRow
import Derived.Lib.QuietBelow
import Derived.Deep.Cut
import Derived.Deep.CutRange
import Derived.BigQuiet
namespace Go.Proofs.Ytjngghihciimjaa
set_option maxRecDepth 100000
open Go.RowKit Go.Sort

/-- A block of cells that stands whole in a world. -/
def Lies (w : World) (g : Nat) (cs : Array Value) (t : TypeId) : Prop := w.heap[g]? = some (.cells cs t (0, 0))
theorem Lies.cell {w : World} {g : Nat} {cs : Array Value} {t : TypeId} (h : Lies w g cs t) (j : Nat) {v : Value} (hv : cs[j]? = some v) : w.cell? ⟨g, j, none⟩ = some v :=
  (cell_of_row w g j cs t (0, 0) h).trans hv
theorem Lies.free {w : World} {g : Nat} {cs : Array Value} {t : TypeId} (h : Lies w g cs t) (j : Nat) : w.frozen? ⟨g, j, none⟩ = false := frozen_of_row w g j cs t h
theorem Lies.alloc {w : World} {g : Nat} {cs : Array Value} {t : TypeId} (h : Lies w g cs t) (o : Obj) : Lies (w.alloc o) g cs t :=
  (Below.heap_alloc w o g (Array.getElem?_eq_some_iff.1 h).1).trans h
theorem Lies.lt {w : World} {g : Nat} {cs : Array Value} {t : TypeId} (h : Lies w g cs t) : g < w.heap.size := (Array.getElem?_eq_some_iff.1 h).1
theorem Lies.set {w : World} {g : Nat} {cs : Array Value} {t : TypeId} (h : Lies w g cs t) (j : Nat) (v : Value) : Lies (w.setCell ⟨g, j, none⟩ v) g (cs.setIfInBounds j v) t :=
  heap_setCell_same w g j cs t v h
theorem Lies.other {w : World} {g : Nat} {cs : Array Value} {t : TypeId} (h : Lies w g cs t) (a : Addr) (v : Value) (hne : g ≠ a.block) : Lies (w.setCell a v) g cs t :=
  (heap_setCell_other w a g v hne).trans h
theorem Lies.below {B : Nat} {w w' : World} {g : Nat} {cs : Array Value} {t : TypeId} (h : Lies w g cs t) (hb : Below B w w') (hg : g < B) : Lies w' g cs t := (hb.block g hg).trans h
theorem Lies.new (w : World) (cs : Array Value) (t : TypeId) : Lies (w.alloc (.cells cs t)) w.heap.size cs t := heap_alloc_new w _
theorem Lies.setRow {w : World} {g : Nat} {cs : Array Value} {t : TypeId} (h : Lies w g cs t) (cs' : Array Value) : Lies (w.setRow g cs') g cs' t := setRow_heap w g cs cs' t _ h
theorem Lies.setRowOther {w : World} {g : Nat} {cs : Array Value} {t : TypeId} (h : Lies w g cs t) (k : Nat) (cs' : Array Value) (hne : g ≠ k) : Lies (w.setRow k cs') g cs t := (setRow_other w k g cs' hne).trans h
theorem below_setRow {B : Nat} {a w : World} (h : Below B a w) (g : Nat) (cs : Array Value) (hg : B ≤ g) : Below B a (w.setRow g cs) :=
  h.trans ⟨rfl, rfl, rfl, by simp, fun k hk => setRow_other w g k cs (by omega)⟩
theorem size_set (w : World) (a : Addr) (v : Value) : (w.setCell a v).heap.size = w.heap.size := by simp [World.setCell]
theorem Src.below {B : Nat} {w w' : World} {g off : Nat} {xs : List UInt8} (h : Src w g off xs) (hb : Below B w w') (hg : g < B) : Src w' g off xs := fun j hj =>
  (hb.cell (p := ⟨g, off + j, none⟩) hg).trans (h j hj)
/-- A name as cells. -/
def nmC (n : Nm) : Array Value := B8 n.1 ++ #[.string (txt n.2)]
theorem nmC_size (n : Nm) (h : n.1.length = 32) : (nmC n).size = 33 := by simp [nmC, B8_size, h]
theorem nmC_get (n : Nm) (h : n.1.length = 32) (j : Nat) (hj : j < 32) : (nmC n)[j]? = some (.int .u8 (n.1.getD j 0).toNat) := by
  unfold nmC
  rw [Array.getElem?_append_left (by rw [B8_size]; omega)]
  exact B8_get _ _ (by omega)
theorem nmC_txt (n : Nm) (h : n.1.length = 32) : (nmC n)[32]? = some (.string (txt n.2)) := by
  unfold nmC
  rw [Array.getElem?_append_right (by rw [B8_size]; omega), B8_size, h]
  rfl
theorem nmC_one (n : Nm) : (nmC n).all (·.oneCell') = true := by
  unfold nmC
  rw [Array.all_append, B8_one]
  simp [Value.oneCell']
theorem src_nm {w : World} {g : Nat} {n : Nm} (h : n.1.length = 32) (hl : Lies w g (nmC n) 68) : Src w g 0 n.1 := fun j hj => by
  rw [Nat.zero_add]
  exact hl.cell j (nmC_get n h j (by omega))
theorem cN_nz (a b : Nm) : firstNZ [cmpB a.1 b.1, cmpB a.2 b.2] = cN a b := by
  unfold cN
  simp only [firstNZ]
  split
  · split
    · rename_i h; exact h.symm
    · rfl
  · rfl
set_option maxHeartbeats 2000000 in
/-- Which name stands ahead. -/
theorem order_gro (w : World) (a b : Nm) (ha : a.1.length = 32) (hb : b.1.length = 32) :
    Calls Try.prog 43 #[.agg (nmC a), .agg (nmC b)] w fun e w' => e = .returned (.int .i64 (cN a b)) ∧ Below w.heap.size w w' ∧ w.drawn ≤ w'.drawn := by
  obtain ⟨va, hva⟩ : ∃ v, v = nmC a := ⟨_, rfl⟩
  obtain ⟨vb, hvb⟩ : ∃ v, v = nmC b := ⟨_, rfl⟩
  rw [← hva, ← hvb]
  have HA := Lib.hid (And.intro hva (And.intro hvb (And.intro ha hb)))
  clear hva hvb ha hb
  go_enter Try.func43, Try.ntmps43
  go_upto_region 1 with fail
  have hl1 : Lies ((w.alloc (.cells va 68)).alloc (.cells vb 68)) w.heap.size va 68 := (Lies.new _ _ _).alloc _
  have hl2 : Lies ((w.alloc (.cells va 68)).alloc (.cells vb 68)) (w.heap.size + 1) vb 68 := by
    have := Lies.new (w.alloc (.cells va 68)) vb 68
    simpa using this
  have hb0 : Below w.heap.size w ((w.alloc (.cells va 68)).alloc (.cells vb 68)) := ((Below.refl _ _).alloc (Nat.le_refl _) _).alloc (by simp) _
  have HD0 : Hid (w.drawn ≤ ((w.alloc (.cells va 68)).alloc (.cells vb 68)).drawn) := Lib.hid (Nat.le_refl _)
  generalize (w.alloc (.cells va 68)).alloc (.cells vb 68) = W0 at hl1 hl2 hb0 HD0 ⊢
  obtain ⟨g1, hg1⟩ : ∃ g, g = w.heap.size := ⟨_, rfl⟩
  obtain ⟨g2, hg2⟩ : ∃ g, g = w.heap.size + 1 := ⟨_, rfl⟩
  rw [← hg2] at hl2 ⊢
  rw [← hg1] at hl1 ⊢
  have hkk : ∀ V, Below W0.heap.size W0 V → V.cell? ⟨g1, 32, none⟩ = some (.string (txt a.2)) ∧ V.cell? ⟨g2, 32, none⟩ = some (.string (txt b.2)) := fun V hV => by
    have h1 := hl1.below hV hl1.lt
    have h2 := hl2.below hV hl2.lt
    rw [HA.out.1] at h1
    rw [HA.out.2.1] at h2
    exact ⟨h1.cell 32 (nmC_txt a HA.out.2.2.1), h2.cell 32 (nmC_txt b HA.out.2.2.2)⟩
  have hcmp : ∀ V, Below W0.heap.size W0 V → Calls Try.prog 52 #[.slice (some ⟨g1, 0, none⟩) 32 32, .slice (some ⟨g2, 0, none⟩) 32 32] V fun e w' => e = .returned (.int .i64 (cmpB a.1 b.1)) ∧ V = w' := fun V hV => by
    have h1 := hl1.below hV hl1.lt
    have h2 := hl2.below hV hl2.lt
    rw [HA.out.1] at h1
    rw [HA.out.2.1] at h2
    have := bytes_any V g1 0 32 g2 0 32 a.1 b.1 (src_nm HA.out.2.2.1 h1) (src_nm HA.out.2.2.2 h2)
    rw [HA.out.2.2.1, HA.out.2.2.2] at this
    exact this
  have hs0 := hkk _ ((Below.refl _ _).drew)
  have hstr := fun V => compareS_any V a.2 b.2
  obtain ⟨x, hx⟩ : ∃ x, x = cmpB a.1 b.1 := ⟨_, rfl⟩
  obtain ⟨y, hy⟩ : ∃ y, y = cmpB a.2 b.2 := ⟨_, rfl⟩
  have hor : ∀ V : World, V.cell? ⟨W0.heap.size, 0, none⟩ = some (.int .i64 x) → V.cell? ⟨W0.heap.size, 1, none⟩ = some (.int .i64 y) → Calls Try.prog 51 #[.slice (some ⟨W0.heap.size, 0, none⟩) 2 2] V fun e w' => e = .returned (.int .i64 (cN a b)) ∧ V = w' := fun V h1 h2 => by
    have := or_any [x, y] W0.heap.size 2 V (fun j hj => by
      have : j = 0 ∨ j = 1 := by simp at hj; omega
      rcases this with rfl | rfl
      · exact h1
      · exact h2) (by simp)
    rw [hx, hy, cN_nz] at this
    exact this
  rw [← hx] at hcmp
  rw [← hy] at hstr
  generalize txt a.2 = ta at hs0 hkk hstr ⊢
  generalize txt b.2 = tb at hs0 hkk hstr ⊢
  obtain ⟨z, hz⟩ : ∃ z, z = cN a b := ⟨_, rfl⟩
  rw [← hz] at hor
  have HZ := Lib.hid hz.symm
  clear hz
  have HK := Lib.hid hkk
  have HC := Lib.hid hcmp
  have HT := Lib.hid hstr
  have HO := Lib.hid hor
  have HB := Lib.hid (show ∀ V, Below W0.heap.size W0 V → Below w.heap.size w V from fun V hV => hb0.trans (hV.mono hb0.size))
  have d0 : Below W0.heap.size W0 W0.drew := (Below.refl _ _).drew
  clear hl1 hl2 hkk hcmp hstr hor hx hy hb0 hg1 hg2 HA
  have d1 : ∀ c : Array Value, Below W0.heap.size W0 (W0.drew.alloc (.cells c 3)) := fun c => d0.alloc (Nat.le_refl _) _
  have s1 := HK.out _ (d1 #[.int .i64 x, .int .i64 y])
  have h0 := (Lies.new W0.drew #[.int .i64 x, .int .i64 y] 3).cell 0 (v := .int .i64 x) rfl
  have h1 := (Lies.new W0.drew #[.int .i64 x, .int .i64 y] 3).cell 1 (v := .int .i64 y) rfl
  go_region_held3 (fun V => V.cell? ⟨g1, 32, none⟩ = some (.string ta) ∧ V.cell? ⟨g2, 32, none⟩ = some (.string tb))
    (first | exact hs0 | exact s1)
    (first
      | (with_reducible refine (HC.out _ d0).mono ?_; rintro e w5 ⟨rfl, rfl⟩)
      | (with_reducible refine (HT.out _).mono ?_; rintro e w5 ⟨rfl, rfl⟩)
      | (with_reducible refine (HO.out _ h0 h1).mono ?_; rintro e w5 ⟨rfl, rfl⟩))
  go_wp2_with fail
  go_ret
  exact ⟨ret_i HZ.out.symm, HB.out _ (((Below.refl _ _).alloc (Nat.le_refl _) _).drew), Nat.le_trans HD0.out (Nat.le_succ _)⟩
theorem order_any (w : World) (a b : Nm) (ha : a.1.length = 32) (hb : b.1.length = 32) :
    Calls Try.prog 43 #[.agg (nmC a), .agg (nmC b)] w fun e w' => e = .returned (.int .i64 (cN a b)) ∧ Below w.heap.size w w' :=
  (order_gro w a b ha hb).mono fun _ _ h => ⟨h.1, h.2.1⟩
end Go.Proofs.Ytjngghihciimjaa
