/-
  A hash turns where one bit of 130 bytes turns: a part of the 149 bits.
-/
import Derived.Test.YtccfdobogbiomaaDoorFlip
namespace Go.Proofs.YtccfdobogbiomaaDoor

set_option maxRecDepth 100000 in
theorem flips_120 : flipRow 120 5 = true := by decide +kernel
set_option maxRecDepth 100000 in
theorem flips_125 : flipRow 125 5 = true := by decide +kernel
set_option maxRecDepth 100000 in
theorem flips_130 : flipRow 130 5 = true := by decide +kernel
set_option maxRecDepth 100000 in
theorem flips_135 : flipRow 135 5 = true := by decide +kernel
set_option maxRecDepth 100000 in
theorem flips_140 : flipRow 140 5 = true := by decide +kernel
set_option maxRecDepth 100000 in
theorem flips_145 : flipRow 145 4 = true := by decide +kernel
theorem flips_rowE (i : Nat) (h1 : 120 ≤ i) (h2 : i < 149) : Sha.sha (flipB (7 * i)) ≠ Sha.sha (seqB 130) := by
  by_cases c0 : i < 125
  · exact flipRow_at flips_120 i (by omega) (by omega)
  by_cases c1 : i < 130
  · exact flipRow_at flips_125 i (by omega) (by omega)
  by_cases c2 : i < 135
  · exact flipRow_at flips_130 i (by omega) (by omega)
  by_cases c3 : i < 140
  · exact flipRow_at flips_135 i (by omega) (by omega)
  by_cases c4 : i < 145
  · exact flipRow_at flips_140 i (by omega) (by omega)
  exact flipRow_at flips_145 i (by omega) (by omega)
end Go.Proofs.YtccfdobogbiomaaDoor
