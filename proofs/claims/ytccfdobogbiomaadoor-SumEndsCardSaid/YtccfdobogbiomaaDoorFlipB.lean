/-
  A hash turns where one bit of 130 bytes turns: a part of the 149 bits.
-/
import Derived.Test.YtccfdobogbiomaaDoorFlip
namespace Go.Proofs.YtccfdobogbiomaaDoor

set_option maxRecDepth 100000 in
theorem flips_30 : flipRow 30 5 = true := by decide +kernel
set_option maxRecDepth 100000 in
theorem flips_35 : flipRow 35 5 = true := by decide +kernel
set_option maxRecDepth 100000 in
theorem flips_40 : flipRow 40 5 = true := by decide +kernel
set_option maxRecDepth 100000 in
theorem flips_45 : flipRow 45 5 = true := by decide +kernel
set_option maxRecDepth 100000 in
theorem flips_50 : flipRow 50 5 = true := by decide +kernel
set_option maxRecDepth 100000 in
theorem flips_55 : flipRow 55 5 = true := by decide +kernel
theorem flips_rowB (i : Nat) (h1 : 30 ≤ i) (h2 : i < 60) : Sha.sha (flipB (7 * i)) ≠ Sha.sha (seqB 130) := by
  by_cases c0 : i < 35
  · exact flipRow_at flips_30 i (by omega) (by omega)
  by_cases c1 : i < 40
  · exact flipRow_at flips_35 i (by omega) (by omega)
  by_cases c2 : i < 45
  · exact flipRow_at flips_40 i (by omega) (by omega)
  by_cases c3 : i < 50
  · exact flipRow_at flips_45 i (by omega) (by omega)
  by_cases c4 : i < 55
  · exact flipRow_at flips_50 i (by omega) (by omega)
  exact flipRow_at flips_55 i (by omega) (by omega)
end Go.Proofs.YtccfdobogbiomaaDoor
