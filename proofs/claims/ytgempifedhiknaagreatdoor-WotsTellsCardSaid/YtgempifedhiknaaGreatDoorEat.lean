/-
  How a hash at work stands behind the first c bytes of a list: plain mathematics.
-/
import Derived.Test.YtgempifedhiknaaGreatDoorWork
namespace Go.Proofs.YtgempifedhiknaaGreatDoor
set_option maxRecDepth 100000
open Go.RowKit Sha

def stAt (s : Eight) (l : List UInt8) (c : Nat) : Eight := fold (c / 64) s l
def heldAt (l : List UInt8) (c : Nat) : List UInt8 := (l.take c).drop (64 * (c / 64))
def rowAt (l : List UInt8) (c : Nat) : List UInt8 := heldAt l c ++ List.replicate (64 - c % 64) 0

theorem fold_succ (n : Nat) : ∀ (s : Eight) (l : List UInt8), fold (n + 1) s l = mix (fold n s l) ((l.drop (64 * n)).take 64) := by
  induction n with
  | zero => intro s l; simp [fold]
  | succ n ih =>
    intro s l
    rw [fold, ih, fold, List.drop_drop]
    congr 3; omega
theorem heldAt_length (l : List UInt8) (c : Nat) (hc : c ≤ l.length) : (heldAt l c).length = c % 64 := by
  unfold heldAt; rw [List.length_drop, List.length_take]; omega
theorem rowAt_length (l : List UInt8) (c : Nat) (hc : c ≤ l.length) : (rowAt l c).length = 64 := by
  unfold rowAt; rw [List.length_append, heldAt_length l c hc, List.length_replicate]; omega
theorem held_more (l : List UInt8) (c n : Nat) (hn : c + n ≤ l.length) : heldAt l c ++ (l.drop c).take n = (l.take (c + n)).drop (64 * (c / 64)) := by
  unfold heldAt
  rw [List.take_add, List.drop_append_of_le_length (by rw [List.length_take]; omega)]
/-- What stands in the row when n bytes have come behind those of c. -/
def rowMore (l : List UInt8) (c n : Nat) : List UInt8 := (heldAt l c ++ (l.drop c).take n) ++ List.replicate (64 - (c % 64 + n)) 0
theorem rowMore_low (s : Eight) (l : List UInt8) (c n : Nat) (hn : c + n ≤ l.length) (h : c % 64 + n < 64) : rowMore l c n = rowAt l (c + n) ∧ stAt s l c = stAt s l (c + n) ∧ (c + n) % 64 = c % 64 + n := by
  have e1 : (c + n) / 64 = c / 64 := by omega
  have e2 : (c + n) % 64 = c % 64 + n := by omega
  refine ⟨?_, ?_, e2⟩
  · unfold rowMore rowAt; rw [held_more l c n hn, heldAt, e1, e2]
  · unfold stAt; rw [e1]
theorem rowMore_full (s : Eight) (l : List UInt8) (c n : Nat) (hn : c + n ≤ l.length) (h : c % 64 + n = 64) :
    mix (stAt s l c) (rowMore l c n) = stAt s l (c + n) ∧ List.replicate 64 0 = rowAt l (c + n) ∧ (c + n) % 64 = 0 ∧ (rowMore l c n).length = 64 := by
  have e1 : (c + n) / 64 = c / 64 + 1 := by omega
  have e2 : (c + n) % 64 = 0 := by omega
  have hr : rowMore l c n = (l.drop (64 * (c / 64))).take 64 := by
    unfold rowMore
    rw [held_more l c n hn, h, Nat.sub_self, List.replicate_zero, List.append_nil, List.drop_take]
    congr 1; omega
  refine ⟨?_, ?_, e2, ?_⟩
  · rw [hr]; unfold stAt; rw [e1, fold_succ]
  · unfold rowAt heldAt
    rw [e2, e1, List.drop_of_length_le (by rw [List.length_take]; omega)]; rfl
  · rw [hr, List.length_take, List.length_drop]; omega
/-- The row behind a copy of n bytes to its place. -/
theorem row_copied (l : List UInt8) (c n : Nat) (hc : c + n ≤ l.length) (hn : c % 64 + n ≤ 64) :
    (rowAt l c).take (c % 64) ++ ((l.drop c).take n ++ (rowAt l c).drop (c % 64 + n)) = rowMore l c n := by
  have hl := heldAt_length l c (by omega)
  unfold rowAt rowMore
  have e1 : List.drop (c % 64 + n) (heldAt l c ++ List.replicate (64 - c % 64) (0 : UInt8)) = List.replicate (64 - (c % 64 + n)) 0 := by
    rw [List.drop_append, hl, List.drop_of_length_le (l := heldAt l c) (by omega), List.nil_append, List.drop_replicate]
    congr 1; omega
  rw [e1, List.take_append_of_le_length (by omega), List.take_of_length_le (by omega), List.append_assoc]

theorem WK_copied (s : Eight) (row ys : List UInt8) (held all h : Nat) (hr : row.length = 64) (hh : h + ys.length ≤ 64) :
    ((WK s row held all).toList.take (8 + h) ++ ((B8 ys).toList ++ (WK s row held all).toList.drop (8 + h + (B8 ys).toList.length))).toArray = WK s (row.take h ++ (ys ++ row.drop (h + ys.length))) held all := by
  have l1 : (B32 s.list).toList.length = 8 := by rw [Array.length_toList, B32_size]; rfl
  have l2 : (B8 row).toList.length = 64 := by rw [Array.length_toList, B8_size, hr]
  have l3 : (B8 ys).toList.length = ys.length := by rw [Array.length_toList, B8_size]
  apply Array.ext'
  simp only [WK, Array.toList_append]
  rw [l3, List.take_append, l1, List.take_of_length_le (by omega), show 8 + h - 8 = h by omega, List.take_append_of_le_length (by omega),
    List.drop_append, l1, List.drop_of_length_le (by omega), show 8 + h + ys.length - 8 = h + ys.length by omega, List.nil_append, List.drop_append_of_le_length (by omega)]
  simp [B8, List.map_take, List.map_drop]

theorem fold_app (n : Nat) : ∀ (s : Eight) (l x : List UInt8), 64 * n ≤ l.length → fold n s (l ++ x) = fold n s l := by
  induction n with
  | zero => intro s l x _; rfl
  | succ n ih =>
    intro s l x h
    rw [fold, fold, List.take_append_of_le_length (by omega), List.drop_append_of_le_length (by omega)]
    exact ih _ _ _ (by rw [List.length_drop]; omega)
theorem at_start (s : Eight) (l0 xs : List UInt8) : stAt s (l0 ++ xs) l0.length = stAt s l0 l0.length ∧ rowAt (l0 ++ xs) l0.length = rowAt l0 l0.length := by
  refine ⟨fold_app _ s l0 xs (by omega), ?_⟩
  unfold rowAt heldAt
  rw [List.take_append_of_le_length (Nat.le_refl _)]
end Go.Proofs.YtgempifedhiknaaGreatDoor
