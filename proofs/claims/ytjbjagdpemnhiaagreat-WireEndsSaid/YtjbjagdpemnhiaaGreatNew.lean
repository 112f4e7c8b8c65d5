/-
  A new writer; what a writer is that takes.
-/
import Derived.Test.YtjbjagdpemnhiaaGreatIdle
namespace Go.Proofs.YtjbjagdpemnhiaaGreat
open Go.RowKit

/-- A writer in block g whose bytes are l, in a row of its own above B. -/
def Wr (w : World) (B g : Nat) (l : List UInt8) : Prop :=
  ∃ v, Lies w g #[.pointer (some ⟨g, 0, none⟩), .bool false, v] 62 ∧ w.ownsRow B 5 1 v l.length (B8 l).toList ∧ v.ownBlock ≠ some g ∧ B ≤ g

set_option maxRecDepth 100000 in
theorem newwriter_any (w : World) : Calls Tryz.prog 8 #[] w fun e w' => e = .returned (.pointer (some ⟨w.heap.size, 0, none⟩)) ∧ Wr w' w.heap.size w.heap.size [] ∧ Below w.heap.size w w' := by
  go_enter Tryz.func8, Tryz.ntmps8
  go_wp2_with fail
  have hl := Lies.new w #[.pointer none, .bool false, .slice none 0 0] 62
  have hb : Below w.heap.size w (w.alloc (.cells #[.pointer none, .bool false, .slice none 0 0] 62)) := (Below.refl _ _).alloc (Nat.le_refl _) _
  generalize w.alloc (.cells #[.pointer none, .bool false, .slice none 0 0] 62) = w1 at hl hb ⊢
  refine (begin_any w1 w.heap.size (.pointer none) (hl.cell 0 rfl) (hl.free 0) rfl).mono ?_
  rintro e w2 ⟨rfl, hw2⟩
  have hl2 : Lies w2 w.heap.size #[.pointer (some ⟨w.heap.size, 0, none⟩), .bool false, .slice none 0 0] 62 := by rw [hw2]; exact hl.set 0 _
  have hb2 : Below w.heap.size w w2 := by rw [hw2]; exact hb.setCell (Nat.le_refl _) _
  have HX := Lib.hid (And.intro hl2 hb2)
  clear hl hb hl2 hb2 hw2
  go_wp2_with fail
  go_ret
  exact ⟨rfl, ⟨_, HX.out.1, World.ownsRow_nil _ _ _ _, by simp [Value.ownBlock], Nat.le_refl _⟩, HX.out.2⟩

/-- Only the writer, its own row and new memory may have turned. -/
structure Only (g : Nat) (w w' : World) (o : Option Nat) : Prop where
  os : w'.os = w.os
  tape : w'.tape = w.tape
  output : w'.output = w.output
  size : w.heap.size ≤ w'.heap.size
  block : ∀ k, k < w.heap.size → k ≠ g → some k ≠ o → w'.heap[k]? = w.heap[k]?
theorem Only.refl (g : Nat) (w : World) (o : Option Nat) : Only g w w o := ⟨rfl, rfl, rfl, Nat.le_refl _, fun _ _ _ _ => rfl⟩
end Go.Proofs.YtjbjagdpemnhiaaGreat
