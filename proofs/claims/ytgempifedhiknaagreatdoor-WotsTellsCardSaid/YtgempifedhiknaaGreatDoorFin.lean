/-
  The last rows: plain mathematics. 'end' makes of what stands behind a list just the list's hash.
-/
import Derived.Test.YtgempifedhiknaaGreatDoorEnd
import Derived.Test.YtgempifedhiknaaGreatDoorEat
namespace Go.Proofs.YtgempifedhiknaaGreatDoor
set_option maxRecDepth 100000
open Go.RowKit Sha

theorem row_marked (l : List UInt8) : (rowAt l l.length).set (l.length % 64) 128 = heldAt l l.length ++ 128 :: List.replicate (63 - l.length % 64) 0 := by
  have hl := heldAt_length l l.length (Nat.le_refl _)
  unfold rowAt
  rw [List.set_append_right _ _ (by omega), hl, Nat.sub_self, show 64 - l.length % 64 = (63 - l.length % 64) + 1 by omega, List.replicate_succ, List.set_cons_zero]
theorem heldAt_all (l : List UInt8) : heldAt l l.length = l.drop (64 * (l.length / 64)) := by
  unfold heldAt; rw [List.take_length]
theorem sha_low (l : List UInt8) (h : l.length % 64 < 56) :
    sha l = (mix (stAt Sha.start l l.length) ((heldAt l l.length ++ 128 :: List.replicate (55 - l.length % 64) 0) ++ be64 (l.length * 8))).bytes := by
  have hb : (be64 (l.length * 8)).length = 8 := rfl
  have hg : gap l.length = 55 - l.length % 64 := by unfold gap; omega
  have hlen : (pad l).length / 64 = l.length / 64 + 1 := by
    unfold pad; rw [List.length_append, List.length_cons, List.length_append, List.length_replicate, hb, hg]; omega
  unfold sha
  rw [hlen, fold_succ]
  congr 2
  · unfold pad stAt; exact fold_app (l.length / 64) Sha.start l _ (by omega)
  · unfold pad
    rw [List.drop_append_of_le_length (by omega), ← heldAt_all, hg]
    have hh := heldAt_length l l.length (Nat.le_refl _)
    rw [List.take_of_length_le (by rw [List.length_append, List.length_cons, List.length_append, List.length_replicate, hb, hh]; omega)]
    simp
theorem sha_high (l : List UInt8) (h : 56 ≤ l.length % 64) :
    sha l = (mix (mix (stAt Sha.start l l.length) (heldAt l l.length ++ 128 :: List.replicate (63 - l.length % 64) 0)) (List.replicate 56 0 ++ be64 (l.length * 8))).bytes := by
  have hb : (be64 (l.length * 8)).length = 8 := rfl
  have hg : gap l.length = (63 - l.length % 64) + 56 := by unfold gap; omega
  have hlen : (pad l).length / 64 = l.length / 64 + 1 + 1 := by
    unfold pad; rw [List.length_append, List.length_cons, List.length_append, List.length_replicate, hb, hg]; omega
  have hh := heldAt_length l l.length (Nat.le_refl _)
  have hp : pad l = l ++ ((128 :: List.replicate (63 - l.length % 64) 0) ++ (List.replicate 56 0 ++ be64 (l.length * 8))) := by
    unfold pad; rw [hg, ← List.replicate_append_replicate]; simp
  have hd : (pad l).drop (64 * (l.length / 64)) = (heldAt l l.length ++ 128 :: List.replicate (63 - l.length % 64) 0) ++ (List.replicate 56 0 ++ be64 (l.length * 8)) := by
    rw [hp, List.drop_append_of_le_length (by omega), ← heldAt_all, List.append_assoc]
  have hl64 : (heldAt l l.length ++ 128 :: List.replicate (63 - l.length % 64) (0 : UInt8)).length = 64 := by
    rw [List.length_append, List.length_cons, List.length_replicate, hh]; omega
  unfold sha
  rw [hlen, fold_succ, fold_succ]
  congr 2
  · congr 1
    · rw [hp]; unfold stAt; exact fold_app (l.length / 64) Sha.start l _ (by omega)
    · rw [hd, List.take_append_of_le_length (by omega), List.take_of_length_le (by omega)]
  · rw [show 64 * (l.length / 64 + 1) = 64 * (l.length / 64) + 64 by omega, ← List.drop_drop, hd, List.drop_append_of_le_length (by omega), List.drop_of_length_le (by omega), List.nil_append]
    exact List.take_of_length_le (by rw [List.length_append, List.length_replicate, hb]; omega)

/-- 'end', of a hash at work behind the list l: the list's hash. -/
theorem end_sha (l : List UInt8) (hl : l.length ≤ 1000000) (w : World) (b : Nat) (hb1 : b ≠ 1)
    (hb : Lies w b (WK (stAt Sha.start l l.length) (rowAt l l.length) (l.length % 64) l.length) 94) (hg : Cubes w) :
    Calls Tryz.prog 28 #[.pointer (some ⟨b, 0, none⟩)] w fun e w' => e = .returned (.agg (B8 (sha l))) ∧ w.grownBy w' (some b) := by
  have hr := rowAt_length l l.length (Nat.le_refl _)
  have hh := heldAt_length l l.length (Nat.le_refl _)
  by_cases h : l.length % 64 < 56
  · rw [sha_low l h]
    refine end_any _ _ _ _ hr (by omega) hl _ (by rw [List.length_append, List.length_cons, List.length_replicate, hh]; omega) _ (l.length % 64) (Or.inl ⟨h, rfl, rfl, ?_⟩) w b hb1 hb hg
    rw [row_marked]
    unfold lrow
    rw [show 63 - l.length % 64 = (55 - l.length % 64) + 8 by omega, ← List.replicate_append_replicate]
    simp
  · rw [sha_high l (by omega)]
    refine end_any _ _ _ _ hr (by omega) hl _ (by rw [List.length_replicate]) _ 0 (Or.inr ⟨by omega, ?_, rfl, rfl⟩) w b hb1 hb hg
    rw [row_marked]
end Go.Proofs.YtgempifedhiknaaGreatDoor
