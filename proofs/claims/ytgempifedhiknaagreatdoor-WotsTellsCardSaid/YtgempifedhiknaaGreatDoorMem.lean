/-
  Rows of bytes and of 32-bit numbers as cells; a block in a world that goes on. No condition.
-/
import Derived.Test.YtgempifedhiknaaGreatDoorBits
import Derived.OwnWalk
import Derived.Below
import Derived.Laws.Rows
import Derived.Lib.Hide
import Derived.WalkSmall
namespace Go.Proofs.YtgempifedhiknaaGreatDoor
set_option maxRecDepth 100000
open Go.RowKit Sha

def B8 (l : List UInt8) : Array Value := (l.map fun b => Value.int .u8 b.toNat).toArray
def B32 (l : List (BitVec 32)) : Array Value := (l.map fun b => Value.int .u32 b.toNat).toArray

theorem B8_size (l : List UInt8) : (B8 l).size = l.length := by simp [B8]
theorem B32_size (l : List (BitVec 32)) : (B32 l).size = l.length := by simp [B32]
theorem B8_get (l : List UInt8) (i : Nat) (h : i < l.length) : (B8 l)[i]? = some (.int .u8 (l.getD i 0).toNat) := by
  simp [B8, h]
theorem B32_get (l : List (BitVec 32)) (i : Nat) (h : i < l.length) : (B32 l)[i]? = some (.int .u32 (l.getD i 0).toNat) := by
  simp [B32, h]
theorem B8_set (l : List UInt8) (i : Nat) (b : UInt8) : (B8 l).setIfInBounds i (.int .u8 b.toNat) = B8 (l.set i b) := by
  simp [B8, List.map_set]
theorem B32_set (l : List (BitVec 32)) (i : Nat) (b : BitVec 32) : (B32 l).setIfInBounds i (.int .u32 b.toNat) = B32 (l.set i b) := by
  simp [B32, List.map_set]

/-- A block of cells that stands whole in a world. -/
def Lies (w : World) (g : Nat) (cs : Array Value) (t : TypeId) : Prop := w.heap[g]? = some (.cells cs t (0, 0))

theorem Lies.cell {w : World} {g : Nat} {cs : Array Value} {t : TypeId} (h : Lies w g cs t) (j : Nat) {v : Value} (hv : cs[j]? = some v) : w.cell? ⟨g, j, none⟩ = some v :=
  (cell_of_row w g j cs t (0, 0) h).trans hv
theorem Lies.free {w : World} {g : Nat} {cs : Array Value} {t : TypeId} (h : Lies w g cs t) (j : Nat) : w.frozen? ⟨g, j, none⟩ = false :=
  frozen_of_row w g j cs t h
theorem Lies.drew {w : World} {g : Nat} {cs : Array Value} {t : TypeId} (h : Lies w g cs t) : Lies w.drew g cs t := h
theorem Lies.alloc {w : World} {g : Nat} {cs : Array Value} {t : TypeId} (h : Lies w g cs t) (o : Obj) : Lies (w.alloc o) g cs t :=
  (Below.heap_alloc w o g (Array.getElem?_eq_some_iff.1 h).1).trans h
theorem Lies.lt {w : World} {g : Nat} {cs : Array Value} {t : TypeId} (h : Lies w g cs t) : g < w.heap.size := (Array.getElem?_eq_some_iff.1 h).1
theorem Lies.set {w : World} {g : Nat} {cs : Array Value} {t : TypeId} (h : Lies w g cs t) (j : Nat) (v : Value) : Lies (w.setCell ⟨g, j, none⟩ v) g (cs.setIfInBounds j v) t :=
  heap_setCell_same w g j cs t v h
theorem Lies.other {w : World} {g : Nat} {cs : Array Value} {t : TypeId} (h : Lies w g cs t) (a : Addr) (v : Value) (hne : g ≠ a.block) : Lies (w.setCell a v) g cs t :=
  (heap_setCell_other w a g v hne).trans h
theorem Lies.below {B : Nat} {w w' : World} {g : Nat} {cs : Array Value} {t : TypeId} (h : Lies w g cs t) (hb : Below B w w') (hg : g < B) : Lies w' g cs t :=
  (hb.block g hg).trans h
theorem Lies.new (w : World) (cs : Array Value) (t : TypeId) : Lies (w.alloc (.cells cs t)) w.heap.size cs t := heap_alloc_new w _

theorem size_set (w : World) (a : Addr) (v : Value) : (w.setCell a v).heap.size = w.heap.size := by simp [World.setCell]

theorem B8_one (l : List UInt8) : (B8 l).all (·.oneCell') = true := by
  rw [Array.all_eq_true_iff_forall_mem]; intro v hv; simp [B8] at hv; obtain ⟨_, _, rfl⟩ := hv; rfl
theorem B32_one (l : List (BitVec 32)) : (B32 l).all (·.oneCell') = true := by
  rw [Array.all_eq_true_iff_forall_mem]; intro v hv; simp [B32] at hv; obtain ⟨_, _, rfl⟩ := hv; rfl
theorem Lies.setRow {w : World} {g : Nat} {cs : Array Value} {t : TypeId} (h : Lies w g cs t) (cs' : Array Value) : Lies (w.setRow g cs') g cs' t := setRow_heap w g cs cs' t _ h
theorem Lies.setRowOther {w : World} {g : Nat} {cs : Array Value} {t : TypeId} (h : Lies w g cs t) (k : Nat) (cs' : Array Value) (hne : g ≠ k) : Lies (w.setRow k cs') g cs t := (setRow_other w k g cs' hne).trans h
theorem below_setRow {B : Nat} {a w : World} (h : Below B a w) (g : Nat) (cs : Array Value) (hg : B ≤ g) : Below B a (w.setRow g cs) :=
  h.trans ⟨rfl, rfl, rfl, by simp, fun k hk => setRow_other w g k cs (by omega)⟩

theorem grown_set {w wr : World} {b : Nat} (h : w.grownBy wr (some b)) (j : Nat) (v : Value) : w.grownBy (wr.setCell ⟨b, j, none⟩ v) (some b) :=
  ⟨h.os, h.tape, h.output, by rw [size_set]; exact h.size, fun k hk hne => (heap_setCell_other wr _ k v (fun e => hne (by rw [e]))).trans (h.block k hk hne)⟩
theorem grown_drewN {w wr : World} {o : Option Nat} (h : w.grownBy wr o) (q : Nat) : w.grownBy (wr.drewN q) o := ⟨h.os, h.tape, h.output, h.size, h.block⟩
theorem grown_drew {w wr : World} {o : Option Nat} (h : w.grownBy wr o) : w.grownBy wr.drew o := ⟨h.os, h.tape, h.output, h.size, h.block⟩
theorem grown_trans {w w1 w2 : World} {b : Nat} (h : w.grownBy w1 (some b)) (k : w1.grownBy w2 (some b)) : w.grownBy w2 (some b) :=
  ⟨k.os.trans h.os, k.tape.trans h.tape, k.output.trans h.output, Nat.le_trans h.size k.size, fun i hi hne => (k.block i (Nat.lt_of_lt_of_le hi h.size) hne).trans (h.block i hi hne)⟩
theorem grown_below {w w' : World} (h : Below w.heap.size w w') (o : Option Nat) : w.grownBy w' o := ⟨h.os, h.tape, h.output, h.size, fun k hk _ => h.block k hk⟩
theorem grown_refl (w : World) (o : Option Nat) : w.grownBy w o := ⟨rfl, rfl, rfl, Nat.le_refl _, fun _ _ _ => rfl⟩
theorem Lies.grown {w w' : World} {g b : Nat} {cs : Array Value} {t : TypeId} (h : Lies w g cs t) (hb : w.grownBy w' (some b)) (hne : g ≠ b) : Lies w' g cs t :=
  (hb.block g h.lt (fun e => hne (Option.some.inj e))).trans h
end Go.Proofs.YtgempifedhiknaaGreatDoor
