/-
  A hash turns where one bit of 130 bytes turns: a part of the 149 bits.
-/
import Derived.Test.YtccfdobogbiomaaDoorFlip
namespace Go.Proofs.YtccfdobogbiomaaDoor

set_option maxRecDepth 100000 in
theorem flips_90 : flipRow 90 5 = true := by decide +kernel
set_option maxRecDepth 100000 in
theorem flips_95 : flipRow 95 5 = true := by decide +kernel
set_option maxRecDepth 100000 in
theorem flips_100 : flipRow 100 5 = true := by decide +kernel
set_option maxRecDepth 100000 in
theorem flips_105 : flipRow 105 5 = true := by decide +kernel
set_option maxRecDepth 100000 in
theorem flips_110 : flipRow 110 5 = true := by decide +kernel
set_option maxRecDepth 100000 in
theorem flips_115 : flipRow 115 5 = true := by decide +kernel
theorem flips_rowD (i : Nat) (h1 : 90 ≤ i) (h2 : i < 120) : Sha.sha (flipB (7 * i)) ≠ Sha.sha (seqB 130) := by
  by_cases c0 : i < 95
  · exact flipRow_at flips_90 i (by omega) (by omega)
  by_cases c1 : i < 100
  · exact flipRow_at flips_95 i (by omega) (by omega)
  by_cases c2 : i < 105
  · exact flipRow_at flips_100 i (by omega) (by omega)
  by_cases c3 : i < 110
  · exact flipRow_at flips_105 i (by omega) (by omega)
  by_cases c4 : i < 115
  · exact flipRow_at flips_110 i (by omega) (by omega)
  exact flipRow_at flips_115 i (by omega) (by omega)
end Go.Proofs.YtccfdobogbiomaaDoor
