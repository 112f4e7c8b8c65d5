/-
  A hash at work, as a block of 74 cells: its eight numbers, its row of 64 bytes, how many of them are held, how many there were in all.
-/
import Derived.Test.YtgempifedhiknaaGreatDoorMem
import Derived.Deep.MidRow
namespace Go.Proofs.YtgempifedhiknaaGreatDoor
set_option maxRecDepth 100000
open Go.RowKit Sha

def tail2 (held all : Nat) : Array Value := #[.int .i64 held, .int .u64 all]
def WK (s : Eight) (row : List UInt8) (held all : Nat) : Array Value := B32 s.list ++ (B8 row ++ tail2 held all)

theorem list8 (s : Eight) : s.list.length = 8 := rfl
theorem WK_size (s : Eight) (row : List UInt8) (held all : Nat) (hr : row.length = 64) : (WK s row held all).size = 74 := by
  simp [WK, B32_size, B8_size, list8, hr, tail2]
theorem WK_row (s : Eight) (row : List UInt8) (held all : Nat) (j : Nat) (hj : j < row.length) : (WK s row held all)[8 + j]? = some (.int .u8 (row.getD j 0).toNat) := by
  unfold WK
  rw [Array.getElem?_append_right (by rw [B32_size, list8]; omega), B32_size, list8, Nat.add_sub_cancel_left, Array.getElem?_append_left (by rw [B8_size]; exact hj), B8_get row j hj]
theorem WK_held (s : Eight) (row : List UInt8) (held all : Nat) (hr : row.length = 64) : (WK s row held all)[72]? = some (.int .i64 held) := by
  unfold WK
  rw [Array.getElem?_append_right (by rw [B32_size, list8]; omega), B32_size, list8, Array.getElem?_append_right (by rw [B8_size, hr]; omega), B8_size, hr]; rfl
theorem WK_all (s : Eight) (row : List UInt8) (held all : Nat) (hr : row.length = 64) : (WK s row held all)[73]? = some (.int .u64 all) := by
  unfold WK
  rw [Array.getElem?_append_right (by rw [B32_size, list8]; omega), B32_size, list8, Array.getElem?_append_right (by rw [B8_size, hr]; omega), B8_size, hr]; rfl
theorem WK_set_held (s : Eight) (row : List UInt8) (held all n : Nat) (hr : row.length = 64) : (WK s row held all).setIfInBounds 72 (.int .i64 n) = WK s row n all := by
  unfold WK
  rw [Array.setIfInBounds_append_right (by rw [B32_size, list8]; omega), B32_size, list8, Array.setIfInBounds_append_right (by rw [B8_size, hr]; omega), B8_size, hr]; rfl
theorem WK_set_all (s : Eight) (row : List UInt8) (held all n : Nat) (hr : row.length = 64) : (WK s row held all).setIfInBounds 73 (.int .u64 n) = WK s row held n := by
  unfold WK
  rw [Array.setIfInBounds_append_right (by rw [B32_size, list8]; omega), B32_size, list8, Array.setIfInBounds_append_right (by rw [B8_size, hr]; omega), B8_size, hr]; rfl
theorem WK_set_row (s : Eight) (row : List UInt8) (held all j : Nat) (hj : j < row.length) (x : UInt8) : (WK s row held all).setIfInBounds (8 + j) (.int .u8 x.toNat) = WK s (row.set j x) held all := by
  unfold WK
  rw [Array.setIfInBounds_append_right (by rw [B32_size, list8]; omega), B32_size, list8, Nat.add_sub_cancel_left, Array.setIfInBounds_append_left (by rw [B8_size]; exact hj), B8_set]

theorem WK_range {w : World} {b : Nat} {s : Eight} {row : List UInt8} {held all : Nat} {T : TypeId} (h : Lies w b (WK s row held all) T) : w.rangeAt b 8 (B8 row).toList := fun j v hv => by
  have hj : j < row.length := by
    have := (List.getElem?_eq_some_iff.1 hv).1
    rwa [Array.length_toList, B8_size] at this
  refine h.cell (8 + j) ?_
  rw [WK_row _ _ _ _ j hj, ← hv, Array.getElem?_toList, B8_get row j hj]

theorem Lies.cells {b : Nat} {t : TypeId} (vs : List Value) : ∀ (o : Nat) (w : World) (l : List Value), Lies w b l.toArray t → o + vs.length ≤ l.length →
    Lies (w.setCells b o vs) b (l.take o ++ (vs ++ l.drop (o + vs.length))).toArray t := by
  induction vs with
  | nil => intro o w l h _; simpa [World.setCells] using h
  | cons v r ih =>
    intro o w l h hl
    have h1 := h.set o v
    simp only [List.setIfInBounds_toArray] at h1
    have := ih (o + 1) _ _ h1 (by simp at hl ⊢; omega)
    rw [World.setCells]
    have e : List.take (o + 1) (l.set o v) ++ (r ++ List.drop (o + 1 + r.length) (l.set o v)) = l.take o ++ (v :: r ++ l.drop (o + (v :: r).length)) := by
      have ho : o < l.length := by simp at hl; omega
      rw [List.take_succ_eq_append_getElem (by simpa using ho), List.take_set_of_le (Nat.le_refl _), List.drop_set_of_lt (by omega)]
      simp [List.append_assoc, Nat.add_assoc, Nat.add_comm 1]
    rwa [e] at this

theorem grown_cells {w : World} {b : Nat} (vs : List Value) : ∀ (o : Nat) (wr : World), w.grownBy wr (some b) → w.grownBy (wr.setCells b o vs) (some b) := by
  induction vs with
  | nil => intro o wr h; exact h
  | cons v r ih => intro o wr h; exact ih (o + 1) _ (grown_set h o v)

/-- The row is stored anew. -/
theorem WK_store {w : World} {b : Nat} {s : Eight} {row : List UInt8} {held all : Nat} {T : TypeId} (h : Lies w b (WK s row held all) T) (hr : row.length = 64) (row' : List UInt8) (hr' : row'.length = 64) :
    Lies (w.setCells b 8 (B8 row').toList) b (WK s row' held all) T := by
  have h0 : Lies w b (WK s row held all).toList.toArray T := h
  have := Lies.cells (B8 row').toList 8 w _ h0 (by rw [Array.length_toList, Array.length_toList, WK_size _ _ _ _ hr, B8_size, hr']; omega)
  have e : (List.take 8 (WK s row held all).toList ++ ((B8 row').toList ++ List.drop (8 + (B8 row').toList.length) (WK s row held all).toList)).toArray = WK s row' held all := by
    have l1 : (B32 s.list).toList.length = 8 := by rw [Array.length_toList, B32_size]; rfl
    have l2 : (B8 row).toList.length = 64 := by rw [Array.length_toList, B8_size, hr]
    have l3 : (B8 row').toList.length = 64 := by rw [Array.length_toList, B8_size, hr']
    apply Array.ext'
    simp only [WK, Array.toList_append]
    rw [l3, List.take_append_of_le_length (by omega), List.take_of_length_le (by omega), List.drop_append, l1, List.drop_of_length_le (by omega), List.drop_append, l2, List.drop_of_length_le (by omega)]
    simp
  rwa [e] at this

theorem Lies.there {w : World} {b o n : Nat} {cs : Array Value} {t : TypeId} (h : Lies w b cs t) (hn : o + n ≤ cs.size) : w.there b o n := fun j hj =>
  ⟨by rw [cell_of_row w b (o + j) cs t (0, 0) h, Array.getElem?_eq_getElem (by omega)]; rfl, h.free _⟩
end Go.Proofs.YtgempifedhiknaaGreatDoor
