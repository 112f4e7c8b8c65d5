/-
  A new reader of bytes that came in: nil, empty or not.
-/
import Derived.Test.YtjbjagdpemnhiaaGreatByt2
namespace Go.Proofs.YtjbjagdpemnhiaaGreat
open Go.RowKit

theorem clone_in (w : World) (v : Value) (xs : List UInt8) (h : RawIn w v xs) (hx : xs.length ≤ 2000000) :
    Calls Tryz.prog 44 #[v] w fun e w' => ∃ u, e = .returned u ∧ w'.ownsRow w.heap.size 5 1 u xs.length (B8 xs).toList ∧ Below w.heap.size w w' := by
  rcases h with ⟨rfl, rfl⟩ | ⟨ad, c, rfl, hs⟩
  · refine (clone_nil w).mono ?_
    rintro e w' ⟨rfl, rfl⟩
    exact ⟨_, rfl, World.ownsRow_nil _ _ _ _, Below.refl _ _⟩
  · exact clone_anyA w xs ad c hs hx
set_option maxRecDepth 100000 in
theorem newreader_in (w : World) (v : Value) (xs : List UInt8) (h : RawIn w v xs) (hx : xs.length ≤ 2000000) (hp : 0 < w.heap.size) :
    Calls Tryz.prog 13 #[v] w fun e w' => ∃ g k c, e = .returned (.pointer (some ⟨g, 0, none⟩)) ∧ w.heap.size ≤ g ∧ (w.heap.size ≤ k ∨ xs = []) ∧ Rdr w' g k xs c 0 false ∧ Below w.heap.size w w' := by
  have hcl := clone_in w v xs h hx
  have HC := Lib.hid hcl
  have HP := Lib.hid hp
  clear hcl h hp
  go_enter Tryz.func13, Tryz.ntmps13
  go_wp2_with fail
  refine HC.out.mono ?_
  rintro e w1 ⟨u, rfl, hown, hb⟩
  have hk : ∃ k c, u = RS k xs.length c ∧ (w.heap.size ≤ k ∨ xs = []) ∧ k < w1.heap.size ∧ xs.length ≤ c ∧ (c = NILC → xs = []) ∧ Src w1 k 0 xs := by
    rcases hown.2 with ⟨rfl, hn⟩ | ⟨k, c, cur, rfl, hk1, hk2, hk3, hk4, _⟩
    · obtain rfl : xs = [] := List.eq_nil_of_length_eq_zero hn
      exact ⟨0, NILC, by rw [RS_nil], .inr rfl, Nat.lt_of_lt_of_le HP.out hb.size, Nat.zero_le _, fun _ => rfl, fun j hj => absurd hj (by simp)⟩
    · have hcn : c ≠ NILC := by
        unfold maxLen at hk4
        unfold NILC
        omega
      exact ⟨k, c, by rw [RS_some k _ hcn], .inl hk1, (Array.getElem?_eq_some_iff.1 hk2).1, hk3, fun e => absurd e hcn, own_src hown⟩
  obtain ⟨k, c, rfl, hk1, hk2, hk3, hk4, hsrc⟩ := hk
  have HH := Lib.hid (And.intro hsrc (And.intro hb (And.intro hk1 (And.intro hk2 (And.intro hk3 hk4)))))
  have hform : ∃ A c2, RS k xs.length c = .slice A xs.length c2 := by
    by_cases hc : c = NILC
    · exact ⟨none, 0, by rw [hc, RS_nil, hk4 hc]; rfl⟩
    · exact ⟨_, _, RS_some k _ hc⟩
  obtain ⟨A, c2, hrs⟩ := hform
  rw [hrs]
  have HRS := Lib.hid hrs
  clear hrs
  clear hown hb hsrc HC hk1 hk2 hk3 hk4
  go_wp2_with fail
  have hl := Lies.new w1 #[.pointer none, .bool false, .slice A xs.length c2, .int .i64 0] 71
  have hb1 : Below w1.heap.size w1 (w1.alloc (.cells #[.pointer none, .bool false, .slice A xs.length c2, .int .i64 0] 71)) := (Below.refl _ _).alloc (Nat.le_refl _) _
  generalize w1.alloc (.cells #[.pointer none, .bool false, .slice A xs.length c2, .int .i64 0] 71) = w2 at hl hb1 ⊢
  refine (begin_any w2 w1.heap.size (.pointer none) (hl.cell 0 rfl) (hl.free 0) rfl).mono ?_
  rintro e w3 ⟨rfl, hw3⟩
  have hr : Rdr w3 w1.heap.size k xs c 0 false := by
    rw [hw3]
    have hk2 := HH.out.2.2.2.1
    have hl2 : Lies w2 w1.heap.size #[.pointer none, .bool false, RS k xs.length c, .int .i64 0] 71 := by rw [HRS.out]; exact hl
    refine ⟨hl2.set 0 _, ?_, by omega, by rw [size_set]; exact Nat.lt_of_lt_of_le hk2 hb1.size, hx, HH.out.2.2.2.2.1, HH.out.2.2.2.2.2⟩
    have h1 : Src w2 k 0 xs := fun j hj => (hb1.cell (p := ⟨k, 0 + j, none⟩) hk2).trans (HH.out.1 j hj)
    exact h1.only (only_set w1.heap.size 0 w2 _) (Nat.lt_of_lt_of_le hk2 hb1.size) (by omega)
  have hb3 : Below w.heap.size w w3 := by
    rw [hw3]
    exact (HH.out.2.1.trans (hb1.mono HH.out.2.1.size)).setCell HH.out.2.1.size _
  have HX := Lib.hid (And.intro hr hb3)
  clear hl hb1 hw3 hr hb3
  go_wp2_with fail
  go_ret
  exact ⟨w1.heap.size, k, c, rfl, HH.out.2.1.size, HH.out.2.2.1, HX.out.1, HX.out.2⟩
end Go.Proofs.YtjbjagdpemnhiaaGreat
