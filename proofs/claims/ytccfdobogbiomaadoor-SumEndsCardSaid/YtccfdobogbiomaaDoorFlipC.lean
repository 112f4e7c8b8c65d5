/-
  A hash turns where one bit of 130 bytes turns: a part of the 149 bits.
-/
import Derived.Test.YtccfdobogbiomaaDoorFlip
namespace Go.Proofs.YtccfdobogbiomaaDoor

set_option maxRecDepth 100000 in
theorem flips_60 : flipRow 60 5 = true := by decide +kernel
set_option maxRecDepth 100000 in
theorem flips_65 : flipRow 65 5 = true := by decide +kernel
set_option maxRecDepth 100000 in
theorem flips_70 : flipRow 70 5 = true := by decide +kernel
set_option maxRecDepth 100000 in
theorem flips_75 : flipRow 75 5 = true := by decide +kernel
set_option maxRecDepth 100000 in
theorem flips_80 : flipRow 80 5 = true := by decide +kernel
set_option maxRecDepth 100000 in
theorem flips_85 : flipRow 85 5 = true := by decide +kernel
theorem flips_rowC (i : Nat) (h1 : 60 ≤ i) (h2 : i < 90) : Sha.sha (flipB (7 * i)) ≠ Sha.sha (seqB 130) := by
  by_cases c0 : i < 65
  · exact flipRow_at flips_60 i (by omega) (by omega)
  by_cases c1 : i < 70
  · exact flipRow_at flips_65 i (by omega) (by omega)
  by_cases c2 : i < 75
  · exact flipRow_at flips_70 i (by omega) (by omega)
  by_cases c3 : i < 80
  · exact flipRow_at flips_75 i (by omega) (by omega)
  by_cases c4 : i < 85
  · exact flipRow_at flips_80 i (by omega) (by omega)
  exact flipRow_at flips_85 i (by omega) (by omega)
end Go.Proofs.YtccfdobogbiomaaDoor
