/-
  A reader: its own place, whether it is spoilt, its bytes, where it stands. What its inner calls do: tells, next.
-/
import Derived.Test.YtjbjagdpemnhiaaGreatClone
import Derived.Test.YtjbjagdpemnhiaaGreatPuts
import Derived.Deep.QuietTactic
import Derived.BigQuiet
import Derived.Deep.Cut
import Derived.Defers
import Derived.Recover
namespace Go.Proofs.YtjbjagdpemnhiaaGreat
open Go.RowKit

/-- The capacity that stands for a reader of nil. -/
def NILC : Nat := 18446744073709551616
/-- What a reader holds: its bytes in block k, or nil. -/
def RS (k n c : Nat) : Value := if c = NILC then .slice none 0 0 else .slice (some ⟨k, 0, none⟩) n c
theorem RS_nil (k n : Nat) : RS k n NILC = .slice none 0 0 := if_pos rfl
theorem RS_some (k n : Nat) {c : Nat} (h : c ≠ NILC) : RS k n c = .slice (some ⟨k, 0, none⟩) n c := if_neg h
/-- A reader in block g, of the bytes xs in block k, at the place a. -/
def Rdr (w : World) (g k : Nat) (xs : List UInt8) (c a : Nat) (sp : Bool) : Prop :=
  Lies w g #[.pointer (some ⟨g, 0, none⟩), .bool sp, RS k xs.length c, .int .i64 a] 71 ∧ Src w k 0 xs ∧ k ≠ g ∧ k < w.heap.size ∧ xs.length ≤ 2000000 ∧ xs.length ≤ c ∧ (c = NILC → xs = [])
theorem Rdr.notNil {w : World} {g k : Nat} {xs : List UInt8} {c a : Nat} {sp : Bool} (h : Rdr w g k xs c a sp) (hp : 0 < xs.length) : c ≠ NILC := fun e => by
  rw [h.2.2.2.2.2.2 e] at hp
  exact absurd hp (by simp)
theorem Rdr.form {w : World} {g k : Nat} {xs : List UInt8} {c a : Nat} {sp : Bool} (h : Rdr w g k xs c a sp) : ∃ A c', RS k xs.length c = .slice A xs.length c' := by
  by_cases hc : c = NILC
  · exact ⟨none, 0, by rw [hc, RS_nil, h.2.2.2.2.2.2 hc]; rfl⟩
  · exact ⟨_, _, RS_some k _ hc⟩
theorem Only.trans0 {g : Nat} {w w1 w2 : World} (h : Only g w w1 none) (k : Only g w1 w2 none) : Only g w w2 none := Only.trans h k (.inl rfl)
theorem only_below {g : Nat} {w w' : World} (h : Below w.heap.size w w') : Only g w w' none := ⟨h.os, h.tape, h.output, h.size, fun k hk _ _ => h.block k hk⟩
theorem only_set (g j : Nat) (w : World) (v : Value) : Only g w (w.setCell ⟨g, j, none⟩ v) none :=
  ⟨rfl, rfl, rfl, by rw [size_set]; exact Nat.le_refl _, fun k _ hne _ => heap_setCell_other w _ k v hne⟩
theorem Only.cell {g : Nat} {w w' : World} (h : Only g w w' none) {b o : Nat} (hb : b < w.heap.size) (hne : b ≠ g) : w'.cell? ⟨b, o, none⟩ = w.cell? ⟨b, o, none⟩ := by
  have := h.block b hb hne (by simp)
  unfold World.cell?
  simp only [this]
theorem Src.only {g : Nat} {w w' : World} {k off : Nat} {xs : List UInt8} (h : Src w k off xs) (ho : Only g w w' none) (hk : k < w.heap.size) (hne : k ≠ g) : Src w' k off xs :=
  fun j hj => (ho.cell hk hne).trans (h j hj)
theorem Rdr.below {w w' : World} {g k : Nat} {xs : List UInt8} {c a : Nat} {sp : Bool} (h : Rdr w g k xs c a sp) (hb : Below w.heap.size w w') : Rdr w' g k xs c a sp :=
  ⟨h.1.below hb h.1.lt, fun j hj => (hb.cell (p := ⟨k, 0 + j, none⟩) h.2.2.2.1).trans (h.2.1 j hj), h.2.2.1, Nat.lt_of_lt_of_le h.2.2.2.1 hb.size, h.2.2.2.2⟩
theorem Rdr.at {w : World} {g k : Nat} {xs : List UInt8} {c a : Nat} {sp : Bool} (h : Rdr w g k xs c a sp) (a' : Nat) : Rdr (w.setCell ⟨g, 3, none⟩ (.int .i64 a')) g k xs c a' sp :=
  ⟨h.1.set 3 _, h.2.1.only (only_set g 3 w _) h.2.2.2.1 h.2.2.1, h.2.2.1, by rw [size_set]; exact h.2.2.2.1, h.2.2.2.2⟩
theorem Rdr.spoil {w : World} {g k : Nat} {xs : List UInt8} {c a : Nat} {sp : Bool} (h : Rdr w g k xs c a sp) : Rdr (w.setCell ⟨g, 1, none⟩ (.bool true)) g k xs c a true :=
  ⟨h.1.set 1 _, h.2.1.only (only_set g 1 w _) h.2.2.2.1 h.2.2.1, h.2.2.1, by rw [size_set]; exact h.2.2.2.1, h.2.2.2.2⟩

/-! ## tells -/
theorem tells_nil (w : World) : Calls Tryz.prog 76 #[.pointer none] w fun e w' => e = .returned (.bool false) ∧ w = w' := by
  go_enter Tryz.func76, Tryz.ntmps76
  go_wp2
  go_ret
  exact ⟨rfl, rfl⟩
set_option maxRecDepth 100000 in
theorem tells_self (w : World) (g : Nat) (sp : Bool) (h : w.cell? ⟨g, 0, none⟩ = some (.pointer (some ⟨g, 0, none⟩))) (hs : w.cell? ⟨g, 1, none⟩ = some (.bool sp)) :
    Calls Tryz.prog 76 #[.pointer (some ⟨g, 0, none⟩)] w fun e w' => e = .returned (.bool (!sp)) ∧ w = w' := by
  have he := sound_self w g sp h hs
  go_enter Tryz.func76, Tryz.ntmps76
  go_wp2_with fail
  refine he.mono ?_
  rintro e w' ⟨rfl, rfl⟩
  clear he
  go_wp2_with fail
  go_ret
  exact ⟨rfl, rfl⟩
set_option maxRecDepth 100000 in
theorem tells_none (w : World) (g : Nat) (h : w.cell? ⟨g, 0, none⟩ = some (.pointer none)) :
    Calls Tryz.prog 76 #[.pointer (some ⟨g, 0, none⟩)] w fun e w' => e = .returned (.bool false) ∧ w = w' := by
  have he := sound_none w g h
  go_enter Tryz.func76, Tryz.ntmps76
  go_wp2_with fail
  refine he.mono ?_
  rintro e w' ⟨rfl, rfl⟩
  clear he
  go_wp2_with fail
  go_ret
  exact ⟨rfl, rfl⟩
theorem tells_idle (w : World) (p : Option Addr) (h : Idle w p) : Calls Tryz.prog 76 #[.pointer p] w fun e w' => e = .returned (.bool false) ∧ w = w' := by
  rcases h with rfl | ⟨g, rfl, _, h | ⟨h, h'⟩⟩
  · exact tells_nil w
  · exact tells_none w g h
  · exact tells_self w g true h h'

/-! ## next -/
theorem below_drewN (w : World) (n : Nat) : Below w.heap.size w (w.drewN n) := ⟨rfl, rfl, rfl, Nat.le_refl _, fun _ _ => rfl⟩
/-- What is not there is thrown. -/
def Unmet (e : Ending) : Prop := ∃ v, e = .panicked [{ v := .iface 41 v, recovered := false }]
set_option maxRecDepth 100000 in
theorem next_bad (w : World) (g k : Nat) (xs : List UInt8) (c a : Nat) (h : Rdr w g k xs c a false) (ha : a ≤ xs.length) (n : Int) (hn : n < 0 ∨ (xs.length : Int) - a < n) :
    Calls Tryz.prog 73 #[.pointer (some ⟨g, 0, none⟩), .int .i64 n] w fun e w' => Unmet e ∧ Below w.heap.size w w' := by
  obtain ⟨A, c', hrs⟩ := h.form
  have c2 : w.cell? ⟨g, 2, none⟩ = some (RS k xs.length c) := h.1.cell 2 rfl
  rw [hrs] at c2
  clear hrs
  have c3 : w.cell? ⟨g, 3, none⟩ = some (.int .i64 a) := h.1.cell 3 rfl
  obtain ⟨_, _, _, _, hx, _, _⟩ := h
  have b1 : (0 : Int) ≤ (xs.length : Int) - a := by omega
  have b2 : (xs.length : Int) - a ≤ 2000000 := by omega
  have hw : IntKind.i64.wrap ((xs.length : Int) - a) = (xs.length : Int) - a := by rw [IntKind.wrap_i64]; omega
  by_cases h0 : n < 0
  · have d0 : decide (n < 0) = true := decide_eq_true h0
    go_enter Tryz.func73, Tryz.ntmps73
    go_wp2_with fail
    go_quiet (fail)
    go_wp2_with fail
    exact ⟨rfl, ⟨_, rfl⟩, below_drewN w nq⟩
  · have d0 : decide (n < 0) = false := decide_eq_false h0
    have d1 : (xs.length : Int) - a < n := by omega
    go_enter Tryz.func73, Tryz.ntmps73
    go_wp2_with fail
    go_quiet (fail)
    go_wp2_with fail
    exact ⟨rfl, ⟨_, rfl⟩, below_drewN w nq⟩
theorem part_src {w : World} {k : Nat} {xs : List UInt8} (h : Src w k 0 xs) (a n : Nat) : Src w k a ((xs.drop a).take n) := by
  intro j hj
  rw [List.length_take, List.length_drop] at hj
  have := h (a + j) (by omega)
  rw [Nat.zero_add] at this
  rw [this]
  simp only [List.getD_eq_getElem?_getD]
  rw [List.getElem?_take_of_lt (by omega), List.getElem?_drop]
set_option maxRecDepth 100000 in
theorem next_good (w : World) (g k : Nat) (xs : List UInt8) (c a : Nat) (h : Rdr w g k xs c a false) (n : Nat) (hn : a + n ≤ xs.length) (hnn : c ≠ NILC) :
    Calls Tryz.prog 73 #[.pointer (some ⟨g, 0, none⟩), .int .i64 n] w fun e w' => ∃ off c', e = .returned (.slice (some ⟨k, off, none⟩) n c') ∧ Src w' k off ((xs.drop a).take n) ∧ Rdr w' g k xs c (a + n) false ∧ Only g w w' none := by
  have HR := Lib.hid h
  have c2 : w.cell? ⟨g, 2, none⟩ = some (RS k xs.length c) := h.1.cell 2 rfl
  rw [RS_some k _ hnn] at c2
  clear hnn
  have c3 : w.cell? ⟨g, 3, none⟩ = some (.int .i64 a) := h.1.cell 3 rfl
  have f3 : w.frozen? ⟨g, 3, none⟩ = false := h.1.free 3
  obtain ⟨_, _, _, _, hx, hxc, _⟩ := h
  have b1 : (0 : Int) ≤ (xs.length : Int) - a := by omega
  have b2 : (xs.length : Int) - a ≤ 2000000 := by omega
  have hw : IntKind.i64.wrap ((xs.length : Int) - a) = (xs.length : Int) - a := by rw [IntKind.wrap_i64]; omega
  have hw2 : IntKind.i64.wrap ((a : Int) + n) = (a : Int) + n := by rw [IntKind.wrap_i64]; omega
  have d0 : decide ((n : Int) < 0) = false := decide_eq_false (by omega)
  have d1 : ¬ (xs.length : Int) - a < n := by omega
  have d2 : decide ((xs.length : Int) - a < n) = false := decide_eq_false d1
  have e1 : (0 : Int) ≤ (a : Int) + n := by omega
  have e2 : ((a : Int) + n).toNat = a + n := by omega
  have e3 : ¬ (c : Int) < (a : Int) + n := by omega
  have e4 : ¬ (a : Int) + n < a := by omega
  have e5 : ¬ a + n < a := by omega
  have fin : ∀ q, Rdr ((w.drewN q).setCell ⟨g, 3, none⟩ (.int .i64 ((a : Int) + n))) g k xs c (a + n) false ∧ Only g w ((w.drewN q).setCell ⟨g, 3, none⟩ (.int .i64 ((a : Int) + n))) none := by
    intro q
    have hR := (HR.out.below (below_drewN w q)).at (a + n)
    rw [Int.natCast_add] at hR
    exact ⟨hR, (only_below (below_drewN w q)).trans0 (only_set g 3 _ _)⟩
  have FIN := Lib.hid fin
  clear fin
  by_cases hc : c = a
  · obtain rfl : n = 0 := by omega
    subst hc
    go_enter Tryz.func73, Tryz.ntmps73
    go_wp2_with fail
    go_quiet (fail)
    go_wp2_with fail
    go_quiet (fail)
    go_wp2_with fail
    go_ret
    obtain ⟨h1, h2⟩ := FIN.out _
    rw [show ((c : Int) + ((0 : Nat) : Int)) = (c : Int) by omega] at h1 h2
    exact ⟨0, 0, rfl, fun j hj => absurd hj (by simp), h1, h2⟩
  · have hc2 : ¬ a = c := by omega
    go_enter Tryz.func73, Tryz.ntmps73
    go_wp2_with fail
    go_quiet (fail)
    go_wp2_with fail
    go_quiet (fail)
    go_wp2_with fail
    go_ret
    obtain ⟨h1, h2⟩ := FIN.out _
    exact ⟨a, c - a, rfl, part_src h1.2.1 a n, h1, h2⟩
set_option maxRecDepth 100000 in
/-- The same, where something is taken: what it tells lies in the reader's own bytes. -/
theorem next_at (w : World) (g k : Nat) (xs : List UInt8) (c a : Nat) (h : Rdr w g k xs c a false) (n : Nat) (hn : a + n ≤ xs.length) (h0 : 0 < n) :
    Calls Tryz.prog 73 #[.pointer (some ⟨g, 0, none⟩), .int .i64 n] w fun e w' => e = .returned (.slice (some ⟨k, a, none⟩) n (c - a)) ∧ Rdr w' g k xs c (a + n) false ∧ Only g w w' none := by
  have HR := Lib.hid h
  have hnn := h.notNil (by omega)
  have c2 : w.cell? ⟨g, 2, none⟩ = some (RS k xs.length c) := h.1.cell 2 rfl
  rw [RS_some k _ hnn] at c2
  clear hnn
  have c3 : w.cell? ⟨g, 3, none⟩ = some (.int .i64 a) := h.1.cell 3 rfl
  have f3 : w.frozen? ⟨g, 3, none⟩ = false := h.1.free 3
  obtain ⟨_, _, _, _, hx, hxc, _⟩ := h
  have b1 : (0 : Int) ≤ (xs.length : Int) - a := by omega
  have b2 : (xs.length : Int) - a ≤ 2000000 := by omega
  have hw : IntKind.i64.wrap ((xs.length : Int) - a) = (xs.length : Int) - a := by rw [IntKind.wrap_i64]; omega
  have hw2 : IntKind.i64.wrap ((a : Int) + n) = (a : Int) + n := by rw [IntKind.wrap_i64]; omega
  have d0 : decide ((n : Int) < 0) = false := decide_eq_false (by omega)
  have d1 : ¬ (xs.length : Int) - a < n := by omega
  have d2 : decide ((xs.length : Int) - a < n) = false := decide_eq_false d1
  have e1 : (0 : Int) ≤ (a : Int) + n := by omega
  have e2 : ((a : Int) + n).toNat = a + n := by omega
  have e3 : ¬ (c : Int) < (a : Int) + n := by omega
  have e4 : ¬ (a : Int) + n < a := by omega
  have e5 : ¬ a + n < a := by omega
  have fin : ∀ q, Rdr ((w.drewN q).setCell ⟨g, 3, none⟩ (.int .i64 ((a : Int) + n))) g k xs c (a + n) false ∧ Only g w ((w.drewN q).setCell ⟨g, 3, none⟩ (.int .i64 ((a : Int) + n))) none := by
    intro q
    have hR := (HR.out.below (below_drewN w q)).at (a + n)
    rw [Int.natCast_add] at hR
    exact ⟨hR, (only_below (below_drewN w q)).trans0 (only_set g 3 _ _)⟩
  have FIN := Lib.hid fin
  clear fin
  have hc2 : ¬ a = c := by omega
  go_enter Tryz.func73, Tryz.ntmps73
  go_wp2_with fail
  go_quiet (fail)
  go_wp2_with fail
  go_quiet (fail)
  go_wp2_with fail
  go_ret
  obtain ⟨h1, h2⟩ := FIN.out _
  exact ⟨rfl, h1, h2⟩
set_option maxRecDepth 100000 in
/-- Nothing taken of a reader of nil. -/
theorem next_nil (w : World) (g k : Nat) (h : Rdr w g k [] NILC 0 false) :
    Calls Tryz.prog 73 #[.pointer (some ⟨g, 0, none⟩), .int .i64 0] w fun e w' => e = .returned (.slice none 0 0) ∧ Rdr w' g k [] NILC 0 false ∧ Only g w w' none := by
  have c2 : w.cell? ⟨g, 2, none⟩ = some (RS k ([] : List UInt8).length NILC) := h.1.cell 2 rfl
  rw [RS_nil] at c2
  have c3 : w.cell? ⟨g, 3, none⟩ = some (.int .i64 0) := h.1.cell 3 rfl
  have f3 : w.frozen? ⟨g, 3, none⟩ = false := h.1.free 3
  have fin : ∀ q, Rdr ((w.drewN q).setCell ⟨g, 3, none⟩ (.int .i64 0)) g k [] NILC 0 false ∧ Only g w ((w.drewN q).setCell ⟨g, 3, none⟩ (.int .i64 0)) none := by
    intro q
    have hR := (h.below (below_drewN w q)).at 0
    exact ⟨hR, (only_below (below_drewN w q)).trans0 (only_set g 3 _ _)⟩
  have FIN := Lib.hid fin
  clear fin h
  go_enter Tryz.func73, Tryz.ntmps73
  go_wp2_with fail
  go_quiet (fail)
  go_wp2_with fail
  go_quiet (fail)
  go_wp2_with fail
  go_ret
  exact ⟨rfl, FIN.out _⟩
end Go.Proofs.YtjbjagdpemnhiaaGreat
