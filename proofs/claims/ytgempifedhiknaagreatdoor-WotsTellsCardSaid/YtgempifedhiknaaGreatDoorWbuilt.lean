/-
  What the builds of a link and of a chain make.
-/
import Derived.Test.YtgempifedhiknaaGreatDoorWm
namespace Go.Proofs.YtgempifedhiknaaGreatDoor
set_option maxRecDepth 100000
open Go.RowKit Sha

theorem list32 (h : List UInt8) (hh : h.length = 32) : ∃ a0 a1 a2 a3 a4 a5 a6 a7 a8 a9 a10 a11 a12 a13 a14 a15 a16 a17 a18 a19 a20 a21 a22 a23 a24 a25 a26 a27 a28 a29 a30 a31 : UInt8, h = [a0, a1, a2, a3, a4, a5, a6, a7, a8, a9, a10, a11, a12, a13, a14, a15, a16, a17, a18, a19, a20, a21, a22, a23, a24, a25, a26, a27, a28, a29, a30, a31] := by
  obtain ⟨a0, h, rfl⟩ : ∃ a t, h = a :: t := by cases h with | nil => simp at hh | cons a t => exact ⟨a, t, rfl⟩
  obtain ⟨a1, h, rfl⟩ : ∃ a t, h = a :: t := by cases h with | nil => simp at hh | cons a t => exact ⟨a, t, rfl⟩
  obtain ⟨a2, h, rfl⟩ : ∃ a t, h = a :: t := by cases h with | nil => simp at hh | cons a t => exact ⟨a, t, rfl⟩
  obtain ⟨a3, h, rfl⟩ : ∃ a t, h = a :: t := by cases h with | nil => simp at hh | cons a t => exact ⟨a, t, rfl⟩
  obtain ⟨a4, h, rfl⟩ : ∃ a t, h = a :: t := by cases h with | nil => simp at hh | cons a t => exact ⟨a, t, rfl⟩
  obtain ⟨a5, h, rfl⟩ : ∃ a t, h = a :: t := by cases h with | nil => simp at hh | cons a t => exact ⟨a, t, rfl⟩
  obtain ⟨a6, h, rfl⟩ : ∃ a t, h = a :: t := by cases h with | nil => simp at hh | cons a t => exact ⟨a, t, rfl⟩
  obtain ⟨a7, h, rfl⟩ : ∃ a t, h = a :: t := by cases h with | nil => simp at hh | cons a t => exact ⟨a, t, rfl⟩
  obtain ⟨a8, h, rfl⟩ : ∃ a t, h = a :: t := by cases h with | nil => simp at hh | cons a t => exact ⟨a, t, rfl⟩
  obtain ⟨a9, h, rfl⟩ : ∃ a t, h = a :: t := by cases h with | nil => simp at hh | cons a t => exact ⟨a, t, rfl⟩
  obtain ⟨a10, h, rfl⟩ : ∃ a t, h = a :: t := by cases h with | nil => simp at hh | cons a t => exact ⟨a, t, rfl⟩
  obtain ⟨a11, h, rfl⟩ : ∃ a t, h = a :: t := by cases h with | nil => simp at hh | cons a t => exact ⟨a, t, rfl⟩
  obtain ⟨a12, h, rfl⟩ : ∃ a t, h = a :: t := by cases h with | nil => simp at hh | cons a t => exact ⟨a, t, rfl⟩
  obtain ⟨a13, h, rfl⟩ : ∃ a t, h = a :: t := by cases h with | nil => simp at hh | cons a t => exact ⟨a, t, rfl⟩
  obtain ⟨a14, h, rfl⟩ : ∃ a t, h = a :: t := by cases h with | nil => simp at hh | cons a t => exact ⟨a, t, rfl⟩
  obtain ⟨a15, h, rfl⟩ : ∃ a t, h = a :: t := by cases h with | nil => simp at hh | cons a t => exact ⟨a, t, rfl⟩
  obtain ⟨a16, h, rfl⟩ : ∃ a t, h = a :: t := by cases h with | nil => simp at hh | cons a t => exact ⟨a, t, rfl⟩
  obtain ⟨a17, h, rfl⟩ : ∃ a t, h = a :: t := by cases h with | nil => simp at hh | cons a t => exact ⟨a, t, rfl⟩
  obtain ⟨a18, h, rfl⟩ : ∃ a t, h = a :: t := by cases h with | nil => simp at hh | cons a t => exact ⟨a, t, rfl⟩
  obtain ⟨a19, h, rfl⟩ : ∃ a t, h = a :: t := by cases h with | nil => simp at hh | cons a t => exact ⟨a, t, rfl⟩
  obtain ⟨a20, h, rfl⟩ : ∃ a t, h = a :: t := by cases h with | nil => simp at hh | cons a t => exact ⟨a, t, rfl⟩
  obtain ⟨a21, h, rfl⟩ : ∃ a t, h = a :: t := by cases h with | nil => simp at hh | cons a t => exact ⟨a, t, rfl⟩
  obtain ⟨a22, h, rfl⟩ : ∃ a t, h = a :: t := by cases h with | nil => simp at hh | cons a t => exact ⟨a, t, rfl⟩
  obtain ⟨a23, h, rfl⟩ : ∃ a t, h = a :: t := by cases h with | nil => simp at hh | cons a t => exact ⟨a, t, rfl⟩
  obtain ⟨a24, h, rfl⟩ : ∃ a t, h = a :: t := by cases h with | nil => simp at hh | cons a t => exact ⟨a, t, rfl⟩
  obtain ⟨a25, h, rfl⟩ : ∃ a t, h = a :: t := by cases h with | nil => simp at hh | cons a t => exact ⟨a, t, rfl⟩
  obtain ⟨a26, h, rfl⟩ : ∃ a t, h = a :: t := by cases h with | nil => simp at hh | cons a t => exact ⟨a, t, rfl⟩
  obtain ⟨a27, h, rfl⟩ : ∃ a t, h = a :: t := by cases h with | nil => simp at hh | cons a t => exact ⟨a, t, rfl⟩
  obtain ⟨a28, h, rfl⟩ : ∃ a t, h = a :: t := by cases h with | nil => simp at hh | cons a t => exact ⟨a, t, rfl⟩
  obtain ⟨a29, h, rfl⟩ : ∃ a t, h = a :: t := by cases h with | nil => simp at hh | cons a t => exact ⟨a, t, rfl⟩
  obtain ⟨a30, h, rfl⟩ : ∃ a t, h = a :: t := by cases h with | nil => simp at hh | cons a t => exact ⟨a, t, rfl⟩
  obtain ⟨a31, h, rfl⟩ : ∃ a t, h = a :: t := by cases h with | nil => simp at hh | cons a t => exact ⟨a, t, rfl⟩
  have : h = [] := by simpa using hh
  subst this
  exact ⟨_, _, _, _, _, _, _, _, _, _, _, _, _, _, _, _, _, _, _, _, _, _, _, _, _, _, _, _, _, _, _, _, rfl⟩
theorem built_link0 (h : List UInt8) (hh : h.length = 32) : Tryz.prog.built 46 [(0, .agg (B8 h))] = some (B8 h ++ #[.int .u8 0]) := by
  obtain ⟨a0, a1, a2, a3, a4, a5, a6, a7, a8, a9, a10, a11, a12, a13, a14, a15, a16, a17, a18, a19, a20, a21, a22, a23, a24, a25, a26, a27, a28, a29, a30, a31, rfl⟩ := list32 h hh
  kernel_rfl
theorem built_link (h : List UInt8) (hh : h.length = 32) (p : Int) : Tryz.prog.built 46 [(0, .agg (B8 h)), (1, .int .u8 p)] = some (B8 h ++ #[.int .u8 p]) := by
  obtain ⟨a0, a1, a2, a3, a4, a5, a6, a7, a8, a9, a10, a11, a12, a13, a14, a15, a16, a17, a18, a19, a20, a21, a22, a23, a24, a25, a26, a27, a28, a29, a30, a31, rfl⟩ := list32 h hh
  kernel_rfl
theorem built_chain (h : List UInt8) (hh : h.length = 32) (p n : Nat) : Tryz.prog.built 48 [(0, .agg (B8 h ++ #[.int .u8 p])), (1, .int .u8 n)] = some (CH h p n) := by
  obtain ⟨a0, a1, a2, a3, a4, a5, a6, a7, a8, a9, a10, a11, a12, a13, a14, a15, a16, a17, a18, a19, a20, a21, a22, a23, a24, a25, a26, a27, a28, a29, a30, a31, rfl⟩ := list32 h hh
  kernel_rfl
end Go.Proofs.YtgempifedhiknaaGreatDoor
