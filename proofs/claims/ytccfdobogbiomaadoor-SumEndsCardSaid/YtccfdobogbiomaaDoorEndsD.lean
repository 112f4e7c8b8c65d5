/-
  SumEnds: the published text's hash; what one bit's turn makes of a row.
-/
import Derived.Test.YtccfdobogbiomaaDoorHex
import Derived.Test.YtccfdobogbiomaaDoorEndsA
import Derived.Lib.ConvBytes
import Derived.Test.YtccfdobogbiomaaDoorFlipA
import Derived.Test.YtccfdobogbiomaaDoorFlipB
import Derived.Test.YtccfdobogbiomaaDoorFlipC
import Derived.Test.YtccfdobogbiomaaDoorFlipD
import Derived.Test.YtccfdobogbiomaaDoorFlipE
namespace Go.Proofs.YtccfdobogbiomaaDoor
open Go.RowKit Sha
def textB : List UInt8 := [97, 98, 99, 100, 98, 99, 100, 101, 99, 100, 101, 102, 100, 101, 102, 103, 101, 102, 103, 104, 102, 103, 104, 105, 103, 104, 105, 106, 104, 105, 106, 107, 105, 106, 107, 108, 106, 107, 108, 109, 107, 108, 109, 110, 108, 109, 110, 111, 109, 110, 111, 112, 110, 111, 112, 113]
set_option maxRecDepth 100000 in
theorem text_sha : hexs (sha textB) = [50, 52, 56, 100, 54, 97, 54, 49, 100, 50, 48, 54, 51, 56, 98, 56, 101, 53, 99, 48, 50, 54, 57, 51, 48, 99, 51, 101, 54, 48, 51, 57, 97, 51, 51, 99, 101, 52, 53, 57, 54, 52, 102, 102, 50, 49, 54, 55, 102, 54, 101, 99, 101, 100, 100, 52, 49, 57, 100, 98, 48, 54, 99, 49] := by decide +kernel
theorem text_length : textB.length = 56 := rfl

theorem flip_all (k : Nat) (h : k < 149) : sha (flipB (7 * k)) ≠ sha (seqB 130) := by
  by_cases h1 : k < 30
  · exact flips_rowA k (by omega) h1
  by_cases h2 : k < 60
  · exact flips_rowB k (by omega) h2
  by_cases h3 : k < 90
  · exact flips_rowC k (by omega) h3
  by_cases h4 : k < 120
  · exact flips_rowD k (by omega) h4
  · exact flips_rowE k (by omega) h
theorem AtQ.block {w0 : World} {l : List UInt8} {g n c : Nat} {w : World} (h : AtQ w0 l (.slice (some ⟨g, 0, none⟩) n c) w) :
    ∃ cur : Array Value, w0.heap.size ≤ g ∧ Lies w g cur 5 ∧ n ≤ c ∧ c ≤ maxLen ∧ cur.size = c ∧ cur.toList.take l.length = (B8 l).toList := by
  rcases h.1.2 with ⟨e, _⟩ | ⟨g', cap, cur, e, h0, hh, h1, h2, h3, h4⟩
  · cases e
  · cases e
    exact ⟨cur, h0, hh, h1, h2, by rw [h3, Nat.mul_one], by rw [← h4, Nat.mul_one]⟩
theorem turn_bit (x : UInt8) (r : Nat) (hr : r < 8) : bits .xor .u8 (x.toNat : Int) ((2 : Int) ^ r) = ((x ^^^ UInt8.ofNat (2 ^ r)).toNat : Int) := by
  have e : (2 : Int) ^ r = ((2 ^ r : Nat) : Int) := by simp
  have hp : 2 ^ r < 256 := by
    have := Nat.pow_lt_pow_right (a := 2) (by omega) hr
    omega
  rw [e, u8_xor_nat x.toNat (2 ^ r) x.toNat_lt hp]
  rw [UInt8.toNat_xor, UInt8.toNat_ofNat']
  rw [Nat.mod_eq_of_lt hp]
theorem turn_bit2 (x : UInt8) (r : Nat) (hr : r < 8) : bits .xor .u8 (x.toNat : Int) ((2 : Int) ^ r % 256) = ((x ^^^ UInt8.ofNat (2 ^ r)).toNat : Int) := by
  have e : (2 : Int) ^ r = ((2 ^ r : Nat) : Int) := by simp
  have hp : 2 ^ r < 256 := by
    have := Nat.pow_lt_pow_right (a := 2) (by omega) hr
    omega
  have e2 : (2 : Int) ^ r % 256 = (2 : Int) ^ r := by rw [e]; generalize 2 ^ r = q at hp ⊢; omega
  rw [e2]; exact turn_bit x r hr
theorem flip_src {w : World} {g : Nat} {cur : Array Value} {xs : List UInt8} {j : Nat} {y : UInt8} (hl : Lies w g cur 5) (ht : cur.toList.take xs.length = (B8 xs).toList) (hj : j < xs.length) :
    Src (w.setCell ⟨g, j, none⟩ (.int .u8 y.toNat)) g 0 (xs.set j y) := by
  intro i hi
  rw [List.length_set] at hi
  rw [Nat.zero_add]
  refine (hl.set j _).cell i ?_
  have hc : cur[i]? = some (.int .u8 (xs.getD i 0).toNat) := by
    have h1 : (cur.toList.take xs.length)[i]? = cur[i]? := by rw [List.getElem?_take_of_lt hi, Array.getElem?_toList]
    rw [← h1, ht, Array.getElem?_toList, B8_get xs i hi]
  have hsz : i < cur.size := (Array.getElem?_eq_some_iff.1 hc).1
  rw [Array.getElem?_setIfInBounds]
  by_cases hij : j = i
  · subst hij
    rw [if_pos rfl, if_pos hsz]
    simp [hj]
  · rw [if_neg hij, hc]
    simp [List.getElem?_set_ne hij]
theorem of_at {w : World} {p : Part} (h : Part8 w p) (ht : Tabs w) (hx : p.xs.length ≤ 1000000) (V : World) (g : Nat) (hb : Below w.heap.size w V) (t1 : V.heap[g]? = some (.cells #[p.val] 38 (0, 0))) :
    Calls Tryd.prog 10 #[.slice (some ⟨g, 0, none⟩) 1 1] V fun e w' => e = .returned (.agg (B8 (sha p.xs))) ∧ Below V.heap.size V w' := by
  have hm : (1 : Nat) ≤ maxLen := by unfold maxLen; omega
  have hj : joined [p] = p.xs := by simp [joined]
  have main := of_any [p] V (some ⟨g, 0, none⟩) 1 hm ?_ ?_ (by rw [hj]; exact hx) (ht.below hb).1 (ht.below hb).2
  · rw [hj] at main
    exact main
  · intro r hr
    rw [List.mem_singleton] at hr
    rw [hr]; exact h.1.below hb
  · intro _
    refine ⟨_, _, rfl, Lies.lt t1, fun j hj => ?_⟩
    obtain rfl : j = 0 := by simp at hj; omega
    have := cell_of_row V _ 0 _ _ _ t1
    simpa using this
theorem chain1 {a w v : World} {o : Obj} (h : Below a.heap.size a w) (k : Below (w.alloc o).heap.size (w.alloc o) v) : Below a.heap.size a v :=
  (h.alloc h.size o).trans (k.mono (h.alloc h.size o).size)
theorem chain2 {a w v : World} {o o2 : Obj} (h : Below a.heap.size a w) (k : Below ((w.alloc o).alloc o2).heap.size ((w.alloc o).alloc o2) v) : Below a.heap.size a v :=
  chain1 (h.alloc h.size o) k
theorem chain0 {a w v : World} (h : Below a.heap.size a w) (k : Below w.heap.size w v) : Below a.heap.size a v := h.trans (k.mono h.size)
theorem text_conv (w : World) : ∃ cap w3, (convert 9 38 (.string ⟨#[97, 98, 99, 100, 98, 99, 100, 101, 99, 100, 101, 102, 100, 101, 102, 103, 101, 102, 103, 104, 102, 103, 104, 105, 103, 104, 105, 106, 104, 105, 106, 107, 105, 106, 107, 108, 106, 107, 108, 109, 107, 108, 109, 110, 108, 109, 110, 111, 109, 110, 111, 112, 110, 111, 112, 113]⟩)).run Tryd.prog w = .ok (.slice (some ⟨w.heap.size, 0, none⟩) 56 cap) w3 ∧ Below w.heap.size w w3 ∧ Good w3 ⟨some ⟨w.heap.size, 0, none⟩, textB, cap⟩ := by
  refine ⟨_, _, Lib.run_convert_string_bytes (P := Tryd.prog) w 9 38 5 ⟨#[97, 98, 99, 100, 98, 99, 100, 101, 99, 100, 101, 102, 100, 101, 102, 103, 101, 102, 103, 104, 102, 103, 104, 105, 103, 104, 105, 106, 104, 105, 106, 107, 105, 106, 107, 108, 106, 107, 108, 109, 107, 108, 109, 110, 108, 109, 110, 111, 109, 110, 111, 112, 110, 111, 112, 113]⟩ Tryd.underlying9 Tryd.underlying38 Tryd.underlying5, ?_, ?_⟩
  · refine ⟨rfl, rfl, rfl, ?_, fun k hk => Lib.bytesWorld_at_old w 5 _ k hk⟩
    rw [Lib.bytesWorld_size]; omega
  · refine ⟨grownCap_ge w 56 0 5, grownCap_le_maxLen w 56 0 5 (by unfold maxLen; omega), fun _ => ⟨w.heap.size, 0, rfl, by rw [Lib.bytesWorld_size]; omega, fun j hj => ?_⟩⟩
    rw [Nat.zero_add]
    exact Lib.bytesWorld_cell w 5 ⟨#[97, 98, 99, 100, 98, 99, 100, 101, 99, 100, 101, 102, 100, 101, 102, 103, 101, 102, 103, 104, 102, 103, 104, 105, 103, 104, 105, 106, 104, 105, 106, 107, 105, 106, 107, 108, 106, 107, 108, 109, 107, 108, 109, 110, 108, 109, 110, 111, 109, 110, 111, 112, 110, 111, 112, 113]⟩ j hj
theorem hex_pub (w : World) : Calls Tryd.prog 19 #[.agg (B8 (sha textB))] w fun e w' => e = .returned (.string ⟨#[50, 52, 56, 100, 54, 97, 54, 49, 100, 50, 48, 54, 51, 56, 98, 56, 101, 53, 99, 48, 50, 54, 57, 51, 48, 99, 51, 101, 54, 48, 51, 57, 97, 51, 51, 99, 101, 52, 53, 57, 54, 52, 102, 102, 50, 49, 54, 55, 102, 54, 101, 99, 101, 100, 100, 52, 49, 57, 100, 98, 48, 54, 99, 49]⟩) ∧ Below w.heap.size w w' := by
  have := hex_any (sha textB) rfl w
  rwa [text_sha] at this
def TurnI (wr : World) (i : Value) (w2 : World) : Prop := ∃ k : Nat, k ≤ 149 ∧ i = .int .i64 ((7 * k : Nat) : Int) ∧ Below wr.heap.size wr w2
end Go.Proofs.YtccfdobogbiomaaDoor
