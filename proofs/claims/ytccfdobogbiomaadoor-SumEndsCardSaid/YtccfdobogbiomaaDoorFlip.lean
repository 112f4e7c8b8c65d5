/-
  The closed statement's bytes and hashes, as plain mathematics.
-/
import Derived.Test.YtccfdobogbiomaaDoorSha
namespace Go.Proofs.YtccfdobogbiomaaDoor
open Sha

def byteAt (n : Nat) : UInt8 := UInt8.ofNat (n * 7 + n / 3)
def seqB (n : Nat) : List UInt8 := (List.range n).map byteAt
/-- The first 130 bytes, with one bit turned. -/
def flipB (bit : Nat) : List UInt8 := (seqB 130).set (bit / 8) ((seqB 130).getD (bit / 8) 0 ^^^ UInt8.ofNat (2 ^ (bit % 8)))
def flipOk (i : Nat) : Bool := decide (sha (flipB (7 * i)) ≠ sha (seqB 130))
def flipRow (s n : Nat) : Bool := (List.range' s n).all flipOk
theorem flipRow_at {s n : Nat} (h : flipRow s n = true) (i : Nat) (h1 : s ≤ i) (h2 : i < s + n) : sha (flipB (7 * i)) ≠ sha (seqB 130) := by
  have := List.all_eq_true.1 h i (by rw [List.mem_range'_1]; omega)
  exact of_decide_eq_true this
end Go.Proofs.YtccfdobogbiomaaDoor
