/-
  A writer's Bytes; a reader of bytes.
-/
import Derived.Test.YtjbjagdpemnhiaaGreatStr
import Derived.Test.YtjbjagdpemnhiaaGreatTell
namespace Go.Proofs.YtjbjagdpemnhiaaGreat
open Go.RowKit

/-- Bytes that were put are told in new memory. -/
theorem wbytes_some (w : World) (B g : Nat) (v : Value) (l : List UInt8) (h : WrV w B g v l) (h0 : l ≠ []) (hx : l.length ≤ 2000000) :
    Calls Tryz.prog 11 #[.pointer (some ⟨g, 0, none⟩)] w fun e w' => ∃ k c, e = .returned (.tuple #[.slice (some ⟨k, 0, none⟩) l.length c, .int .i64 0]) ∧ w'.ownsRow w.heap.size 5 1 (.slice (some ⟨k, 0, none⟩) l.length c) l.length (B8 l).toList ∧ Below w.heap.size w w' := by
  have hpos : 0 < l.length := List.length_pos_iff.2 h0
  obtain ⟨gk, ck, rfl, _, hgk⟩ := h.2.1.form hpos
  have hcl := clone_any w l gk 0 ck (own_src h.2.1) hgk hx
  have ha := answered_self w g (h.1.cell 0 rfl)
  have c1 : w.cell? ⟨g, 1, none⟩ = some (.bool false) := h.1.cell 1 rfl
  have c2 : w.cell? ⟨g, 2, none⟩ = some (.slice (some ⟨gk, 0, none⟩) l.length ck) := h.1.cell 2 rfl
  have HC := Lib.hid hcl
  clear hcl h
  go_enter Tryz.func11, Tryz.ntmps11
  go_wp2_with fail
  refine ha.mono ?_
  rintro e w1 ⟨rfl, rfl⟩
  clear ha
  go_wp2_with fail
  refine HC.out.mono ?_
  rintro e w1 ⟨u, rfl, hown, hb⟩
  obtain ⟨k, c, rfl, _, _⟩ := hown.form hpos
  have HH := Lib.hid (And.intro hown hb)
  clear hown hb
  go_wp2_with fail
  go_ret2
  exact ⟨k, c, rfl, HH.out.1, HH.out.2⟩
/-- A writer that nobody made, or that is none: no bytes, ErrNil. -/
theorem wbytes_nil (w : World) : Calls Tryz.prog 11 #[.pointer none] w fun e w' => e = .returned (.tuple #[.slice none 0 0, .int .i64 1]) ∧ w = w' := by
  go_enter Tryz.func11, Tryz.ntmps11
  go_wp2
  go_ret2
  exact ⟨rfl, rfl⟩
theorem wbytes_none (w : World) (g : Nat) (h : w.cell? ⟨g, 0, none⟩ = some (.pointer none)) : Calls Tryz.prog 11 #[.pointer (some ⟨g, 0, none⟩)] w fun e w' => e = .returned (.tuple #[.slice none 0 0, .int .i64 1]) ∧ w = w' := by
  have ha := answered_none w g h
  go_enter Tryz.func11, Tryz.ntmps11
  go_wp2_with fail
  refine ha.mono ?_
  rintro e w1 ⟨rfl, rfl⟩
  clear ha
  go_wp2_with fail
  go_ret2
  exact ⟨rfl, rfl⟩
set_option maxRecDepth 100000 in
/-- A new reader of bytes that lie somewhere. -/
theorem newreader_some (w : World) (gx off c0 : Nat) (xs : List UInt8) (hs : Src w gx off xs) (hg : gx < w.heap.size) (hx : xs.length ≤ 2000000) (h0 : xs ≠ []) :
    Calls Tryz.prog 13 #[.slice (some ⟨gx, off, none⟩) xs.length c0] w fun e w' => ∃ g k c, e = .returned (.pointer (some ⟨g, 0, none⟩)) ∧ w.heap.size ≤ g ∧ w.heap.size ≤ k ∧ Rdr w' g k xs c 0 false ∧ Below w.heap.size w w' := by
  have hpos : 0 < xs.length := List.length_pos_iff.2 h0
  have hcl := clone_any w xs gx off c0 hs hg hx
  have HC := Lib.hid hcl
  clear hcl hs
  go_enter Tryz.func13, Tryz.ntmps13
  go_wp2_with fail
  refine HC.out.mono ?_
  rintro e w1 ⟨u, rfl, hown, hb⟩
  obtain ⟨k, c, rfl, hk1, hk2⟩ := hown.form hpos
  have hc : xs.length ≤ c := by
    rcases hown.2 with ⟨h, _⟩ | ⟨g2, cap, cur, h, _, _, h5, _⟩
    · cases h
    · cases h; exact h5
  have hcn : c ≠ NILC := by
    rcases hown.2 with ⟨h, _⟩ | ⟨g2, cap, cur, h, _, _, _, h6, _⟩
    · cases h
    · cases h
      unfold maxLen at h6
      unfold NILC
      omega
  have hsrc := own_src hown
  have HH := Lib.hid (And.intro hsrc hb)
  clear hown hb hsrc HC
  go_wp2_with fail
  have hl := Lies.new w1 #[.pointer none, .bool false, .slice (some ⟨k, 0, none⟩) xs.length c, .int .i64 0] 71
  have hb1 : Below w1.heap.size w1 (w1.alloc (.cells #[.pointer none, .bool false, .slice (some ⟨k, 0, none⟩) xs.length c, .int .i64 0] 71)) := (Below.refl _ _).alloc (Nat.le_refl _) _
  generalize w1.alloc (.cells #[.pointer none, .bool false, .slice (some ⟨k, 0, none⟩) xs.length c, .int .i64 0] 71) = w2 at hl hb1 ⊢
  refine (begin_any w2 w1.heap.size (.pointer none) (hl.cell 0 rfl) (hl.free 0) rfl).mono ?_
  rintro e w3 ⟨rfl, hw3⟩
  have hr : Rdr w3 w1.heap.size k xs c 0 false := by
    rw [hw3]
    have hl2 : Lies w2 w1.heap.size #[.pointer none, .bool false, RS k xs.length c, .int .i64 0] 71 := by rw [RS_some k _ hcn]; exact hl
    refine ⟨hl2.set 0 _, ?_, by omega, by rw [size_set]; exact Nat.lt_of_lt_of_le hk2 hb1.size, hx, hc, fun e => absurd e hcn⟩
    have h1 : Src w2 k 0 xs := fun j hj => (hb1.cell (p := ⟨k, 0 + j, none⟩) hk2).trans (HH.out.1 j hj)
    exact h1.only (only_set w1.heap.size 0 w2 _) (Nat.lt_of_lt_of_le hk2 hb1.size) (by omega)
  have hb3 : Below w.heap.size w w3 := by
    rw [hw3]
    exact (HH.out.2.trans (hb1.mono HH.out.2.size)).setCell HH.out.2.size _
  have HX := Lib.hid (And.intro hr hb3)
  clear hl hb1 hw3 hr hb3
  go_wp2_with fail
  go_ret
  exact ⟨w1.heap.size, k, c, rfl, HH.out.2.size, hk1, HX.out.1, HX.out.2⟩
end Go.Proofs.YtjbjagdpemnhiaaGreat
