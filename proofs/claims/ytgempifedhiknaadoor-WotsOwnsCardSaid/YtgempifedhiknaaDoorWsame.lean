/-
  The owner of what a seed signs is its key. Hashes compared.
-/
import Derived.Test.YtgempifedhiknaaDoorWaw
import Derived.Test.YtgempifedhiknaaDoorSameW
namespace Go.Proofs.YtgempifedhiknaaDoor
open Go.RowKit Go.Shelf Sha

theorem flat_len (f : Nat → List UInt8) (hf : ∀ i, (f i).length = 32) : ∀ n, ((List.range n).flatMap f).length = 32 * n
  | 0 => rfl
  | n + 1 => by rw [List.range_succ, List.flatMap_append, List.length_append, flat_len f hf n]; simp [hf]; omega
theorem flat_block (f : Nat → List UInt8) (hf : ∀ i, (f i).length = 32) : ∀ n i, i < n → (((List.range n).flatMap f).drop (i * 32)).take 32 = f i
  | 0, i, h => by omega
  | n + 1, i, h => by
    have hl := flat_len f hf n
    rw [List.range_succ, List.flatMap_append]
    by_cases hi : i < n
    · rw [List.drop_append_of_le_length (by omega), List.take_append_of_le_length (by rw [List.length_drop]; omega)]
      exact flat_block f hf n i hi
    · obtain rfl : i = n := by omega
      rw [List.drop_append, List.drop_of_length_le (by omega), hl, show i * 32 - 32 * i = 0 by omega]
      simp [hf, List.take_of_length_le]
theorem signL_length (xs m : List UInt8) : (signL xs m).length = 1120 := flat_len _ (sigH_length xs m) 35
theorem hashAt_sign (xs m : List UInt8) (i : Nat) (hi : i < 35) : hashAt (signL xs m) i = sigH xs m i := by
  unfold hashAt
  rw [if_pos hi]
  exact flat_block _ (sigH_length xs m) 35 i hi
theorem placeAt_dig (m : List UInt8) (i : Nat) (hi : i < 35) : placeAt (digRow m 35) i = digit m i := by
  have := digit_le m i
  unfold placeAt digRow
  simp [List.getD_eq_getElem?_getD, hi]
  omega
theorem end_sign (xs m : List UInt8) (i : Nat) (hi : i < 35) : endH (hashAt (signL xs m)) (placeAt (digRow m 35)) i = endH (firstH xs) (fun _ => 0) i := by
  unfold endH
  rw [hashAt_sign xs m i hi, placeAt_dig m i hi]
  unfold sigH
  have hd := digit_le m i
  have := onN_add i 0 (digit m i) (firstH xs i) (15 - digit m i)
  rw [Nat.zero_add] at this
  rw [this]
  show onN i 0 (digit m i + (15 - digit m i)) (firstH xs i) = onN i 0 (15 - 0) (firstH xs i)
  congr 1
  omega
/-- What signs is the owner. -/
theorem owner_sign (xs m : List UInt8) : ownerH (signL xs m) m = keyH xs := by
  unfold ownerH keyH
  congr 1
  unfold allEnds
  rw [List.flatMap_def, List.flatMap_def, List.map_congr_left fun i hi => end_sign xs m i (by simpa using hi)]
end Go.Proofs.YtgempifedhiknaaDoor
