/-
  Found: H's numbers, and K's, found by trying.
-/
import Derived.Test.YtccfdobogbiomaaDoorRowV
import Derived.Test.YtccfdobogbiomaaDoorPrimes
import Derived.Test.YtccfdobogbiomaaDoorFirst
namespace Go.Proofs.YtccfdobogbiomaaDoor
open Go.RowKit

def N32 (L : List Nat) : List Value := L.map fun (n : Nat) => Value.int .u32 (n : Int)
theorem N32_length (L : List Nat) : (N32 L).length = L.length := by simp [N32]
theorem N32_get (L : List Nat) (i : Nat) (hi : i < L.length) : (N32 L)[i]? = some (.int .u32 (L[i] : Int)) := by simp [N32, hi]
def roots (c : Bool) (k : Nat) : List Nat := (primes64.take k).map fun p => firstOf p c
theorem roots_succ (c : Bool) (k : Nat) (hk : k < primes64.length) : roots c (k + 1) = roots c k ++ [firstOf primes64[k] c] := by
  unfold roots; rw [List.take_succ_eq_append_getElem hk, List.map_append]; rfl
theorem roots_length (c : Bool) (k : Nat) (hk : k ≤ 64) : (roots c k).length = k := by
  have : primes64.length = 64 := primes_64
  unfold roots; rw [List.length_map, List.length_take, this]; omega
theorem N32_snoc (L : List Nat) (n : Nat) : N32 (L ++ [n]) = N32 L ++ [.int .u32 (n : Int)] := by simp [N32]
def FoundI (w : World) (h k i : Value) (wr : World) : Prop := ∃ j : Nat, j ≤ 64 ∧ i = .int .i64 j ∧ Two w 45 (N32 (roots false (min j 8))) h 45 (N32 (roots true j)) k wr

set_option maxRecDepth 100000 in
set_option maxHeartbeats 1000000 in
theorem found_any (w : World) :
    Calls Tryd.prog 30 #[] w fun e w' => ∃ h k W, e = .returned (.tuple #[h, k]) ∧ Below w.heap.size w w' ∧ Two W 45 (N32 (roots false 8)) h 45 (N32 (roots true 64)) k w' := by
  have main := primes_any w
  have HM := Lib.hid main
  clear main
  go_enter Tryd.func30, Tryd.ntmps30
  go_wp2_with fail
  refine HM.out.mono ?_
  rintro e W ⟨v, rfl, hv⟩
  clear HM
  have hlen : primes64.length = 64 := primes_64
  obtain ⟨A, c, hv2, hA⟩ := hv.shape
  rw [N64_length, hlen] at hv2 hA
  obtain ⟨gp, rfl⟩ := hA (by omega)
  subst hv2
  have HV := Lib.hid hv
  clear hv hA hlen
  go_wp2_with fail
  go_loopw [3, 4, 5] (fun h k i wr => FoundI W h k i wr) (fun _ _ i _ => 64 - (intOf i).toNat)
  case atStart => exact ⟨0, by omega, rfl, Two.none_ W 45 45⟩
  case round =>
    obtain ⟨j, hj, rfl, h2⟩ := hrel
    have HT := Lib.hid h2
    clear h2
    by_cases hlt : j < 64
    · have hlen : primes64.length = 64 := primes_64
      have hs1 := roots_succ true j (by omega)
      have hs0 := roots_succ false j (by omega)
      have hl1 := roots_length true j (by omega)
      have hl0 := roots_length false j (by omega)
      have hcell := HV.out.cell (N64_get primes64 j (by omega))
      have hlt2 : primes64[j]'(by omega) < 4294967296 := by have := primes_two 310 _ (List.getElem_mem (l := primes64) (n := j) (by omega)); omega
      generalize primes64[j]'(by omega) = p at hcell hlt2 hs1 hs0
      have hgp : gp < W.heap.size := own_lt HV.out.1 rfl
      have hc2 : ∀ W2 : World, Below W.heap.size W W2 → W2.cell? ⟨gp, j, none⟩ = some (.int .u64 p) := fun W2 hb => (hb.cell hgp).trans hcell
      have HC := Lib.hid hc2
      have m1 : (j : Int) < 64 := by omega
      have hm1 := fun W2 => first_any p true hlt2 W2
      have hm0 := fun W2 => first_any p false hlt2 W2
      have HM1 := Lib.hid hm1
      have HM0 := Lib.hid hm0
      have hcw := hc2 wr HT.out.1.2
      have hn1 : (N32 (roots true j)).length ≤ 2000000 := by rw [N32_length, hl1]; omega
      have HN1 := Lib.hid hn1
      have HS1 := Lib.hid hs1
      clear hcell hc2 hgp hm1 hm0 hn1 hs1
      generalize hd1 : firstOf p true = d1 at HM1 HS1
      generalize hd0 : firstOf p false = d0 at HM0 hs0
      have HS0 := Lib.hid hs0
      clear hs0
      by_cases h8 : j < 8
      · rw [show min j 8 = j by omega] at HT
        have hn0 : (N32 (roots false j)).length ≤ 2000000 := by rw [N32_length, hl0]; omega
        have HN0 := Lib.hid hn0
        clear hn0
        have m2 : (j : Int) < 8 := by omega
        go_wp2_with fail
        refine (HM0.out _).mono ?_
        rintro e w1 ⟨rfl, rfl⟩
        go_wp2_with (at_builtin; go_must (refine wpList_push2 rfl _ _ 55 45 rfl Tryd.underlying55 info45b rfl (by decide) (N32 (roots false j)) _ (.int .u32 (d0 : Int)) rfl rfl rfl HN0.out 45 (N32 (roots true j)) _ HT.out ?_; intro v5 w5 HQ5; have hcw2 := HC.out _ HQ5.out.1.2))
        refine (HM1.out _).mono ?_
        rintro e w1 ⟨rfl, rfl⟩
        have HQ6 := Lib.hid HQ5.out.symm
        clear HQ5 hcw hcw2
        go_wp2_with (at_builtin; go_must (refine wpList_push2 rfl _ _ 55 45 rfl Tryd.underlying55 info45b rfl (by decide) (N32 (roots true j)) _ (.int .u32 (d1 : Int)) rfl rfl rfl HN1.out 45 _ _ HQ6.out ?_; intro v6 w6 HQ7))
        have hq := HQ7.out.symm
        rw [← N32_snoc, ← N32_snoc, ← HS1.out, ← HS0.out] at hq
        refine ⟨⟨j + 1, by omega, rfl, by rw [show min (j + 1) 8 = j + 1 by omega]; exact hq⟩, ?_⟩
        simp [intOf]; omega
      · rw [show min j 8 = 8 by omega] at HT
        have m2 : ¬ (j : Int) < 8 := by omega
        have HQ6 := Lib.hid HT.out.symm
        clear HT
        go_wp2_with fail
        refine (HM1.out _).mono ?_
        rintro e w1 ⟨rfl, rfl⟩
        clear hcw
        go_wp2_with (at_builtin; go_must (refine wpList_push2 rfl _ _ 55 45 rfl Tryd.underlying55 info45b rfl (by decide) (N32 (roots true j)) _ (.int .u32 (d1 : Int)) rfl rfl rfl HN1.out 45 _ _ HQ6.out ?_; intro v6 w6 HQ7))
        have hq := HQ7.out.symm
        rw [← N32_snoc, ← HS1.out] at hq
        refine ⟨⟨j + 1, by omega, rfl, by rw [show min (j + 1) 8 = 8 by omega]; exact hq⟩, ?_⟩
        simp [intOf]; omega
    · have hj2 : j = 64 := by omega
      subst hj2
      have hb : Below w.heap.size w wr := HV.out.2.trans (HT.out.1.2.mono HV.out.2.size)
      have HB := Lib.hid hb
      clear hb
      go_wp2_with fail
      go_ret2
      exact ⟨_, _, W, rfl, HB.out, HT.out⟩
end Go.Proofs.YtccfdobogbiomaaDoor
