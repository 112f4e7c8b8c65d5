/-
  A hash turns where one bit of 130 bytes turns: a part of the 149 bits.
-/
import Derived.Test.YtccfdobogbiomaaDoorFlip
namespace Go.Proofs.YtccfdobogbiomaaDoor

set_option maxRecDepth 100000 in
theorem flips_0 : flipRow 0 5 = true := by decide +kernel
set_option maxRecDepth 100000 in
theorem flips_5 : flipRow 5 5 = true := by decide +kernel
set_option maxRecDepth 100000 in
theorem flips_10 : flipRow 10 5 = true := by decide +kernel
set_option maxRecDepth 100000 in
theorem flips_15 : flipRow 15 5 = true := by decide +kernel
set_option maxRecDepth 100000 in
theorem flips_20 : flipRow 20 5 = true := by decide +kernel
set_option maxRecDepth 100000 in
theorem flips_25 : flipRow 25 5 = true := by decide +kernel
theorem flips_rowA (i : Nat) (h1 : 0 ≤ i) (h2 : i < 30) : Sha.sha (flipB (7 * i)) ≠ Sha.sha (seqB 130) := by
  by_cases c0 : i < 5
  · exact flipRow_at flips_0 i (by omega) (by omega)
  by_cases c1 : i < 10
  · exact flipRow_at flips_5 i (by omega) (by omega)
  by_cases c2 : i < 15
  · exact flipRow_at flips_10 i (by omega) (by omega)
  by_cases c3 : i < 20
  · exact flipRow_at flips_15 i (by omega) (by omega)
  by_cases c4 : i < 25
  · exact flipRow_at flips_20 i (by omega) (by omega)
  exact flipRow_at flips_25 i (by omega) (by omega)
end Go.Proofs.YtccfdobogbiomaaDoor
