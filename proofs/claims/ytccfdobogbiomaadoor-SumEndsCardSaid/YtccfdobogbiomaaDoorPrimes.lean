/-
  primes: the first 64.
-/
import Derived.Test.YtccfdobogbiomaaDoorRowV
namespace Go.Proofs.YtccfdobogbiomaaDoor
open Go.RowKit

def isP (L : List Nat) (n : Nat) : Bool := L.all fun q => n % q != 0
def primesTo : Nat → List Nat
  | 0 => []
  | k + 1 => if isP (primesTo k) (k + 2) then primesTo k ++ [k + 2] else primesTo k
def primes64 : List Nat := primesTo 310
theorem primesTo_mono (k j : Nat) : (primesTo k).length ≤ (primesTo (k + j)).length := by
  induction j with
  | zero => exact Nat.le_refl _
  | succ j ih =>
    refine Nat.le_trans ih ?_
    have e : primesTo (k + (j + 1)) = if isP (primesTo (k + j)) (k + j + 2) then primesTo (k + j) ++ [k + j + 2] else primesTo (k + j) := rfl
    rw [e]
    split
    · simp
    · exact Nat.le_refl _
theorem primes_63 : (primesTo 309).length = 63 := by decide +kernel
theorem primes_64 : (primesTo 310).length = 64 := by decide +kernel
theorem primes_less (k : Nat) (h : k < 310) : (primesTo k).length < 64 := by
  have := primesTo_mono k (309 - k)
  rw [show k + (309 - k) = 309 by omega, primes_63] at this
  omega
theorem primes_two (k : Nat) : ∀ q, q ∈ primesTo k → 2 ≤ q ∧ q < k + 2 := by
  induction k with
  | zero => intro q hq; simp [primesTo] at hq
  | succ k ih =>
    intro q hq
    unfold primesTo at hq
    split at hq
    · rcases List.mem_append.1 hq with h | h
      · have := ih q h; omega
      · simp at h; omega
    · have := ih q hq; omega
theorem isP_succ (L : List Nat) (n i : Nat) (hi : i < L.length) : isP (L.take (i + 1)) n = (isP (L.take i) n && n % L[i] != 0) := by
  unfold isP
  rw [List.take_succ_eq_append_getElem hi, List.all_append]
  simp

def N64 (L : List Nat) : List Value := L.map fun (n : Nat) => Value.int .u64 (n : Int)
theorem N64_length (L : List Nat) : (N64 L).length = L.length := by simp [N64]
theorem N64_get (L : List Nat) (i : Nat) (hi : i < L.length) : (N64 L)[i]? = some (.int .u64 (L[i] : Int)) := by simp [N64, hi]
theorem info49 : (Tryd.prog.info? 49).map (fun i => (i.zero, i.size, i.bytes)) = some (some (.int .u64 0), 1, 8) := by kernel_rfl
def PrimI (w : World) (v n : Value) (wr : World) : Prop := ∃ k : Nat, k ≤ 310 ∧ n = .int .u64 ((k + 2 : Nat) : Int) ∧ RowV w 49 (N64 (primesTo k)) v wr

set_option maxRecDepth 100000 in
set_option maxHeartbeats 1000000 in
theorem primes_any (w : World) :
    Calls Tryd.prog 37 #[.int .i64 64] w fun e w' => ∃ v, e = .returned v ∧ RowV w 49 (N64 primes64) v w' := by
  go_enter Tryd.func37, Tryd.ntmps37
  go_wp2_with fail
  go_loopw [3, 4] (fun v n wr => PrimI w v n wr) (fun _ n _ => 312 - (intOf n).toNat)
  case atStart => exact ⟨0, by omega, rfl, RowV.none_ w 49⟩
  case round =>
    obtain ⟨k, hk, rfl, hv⟩ := hrel
    obtain ⟨A, c, hv2, hA⟩ := hv.shape
    rw [N64_length] at hv2 hA
    rw [hv2] at hv ⊢
    have HV := Lib.hid hv
    have HA := Lib.hid hA
    clear hv hA hv2
    by_cases hlt : k < 310
    · have hl := primes_less k hlt
      have h2 := primes_two k
      have HSU : Hid (primesTo (k + 1) = if isP (primesTo k) (k + 2) then primesTo k ++ [k + 2] else primesTo k) := Lib.hid rfl
      generalize primesTo k = L at HV HA hl h2 HSU ⊢
      have H2 := Lib.hid h2
      clear h2
      have m1 : (L.length : Int) < 64 := by omega
      obtain ⟨n, hn⟩ : ∃ n, n = k + 2 := ⟨_, rfl⟩
      have hn2 : 2 ≤ n ∧ n ≤ 311 := by omega
      rw [← hn] at HSU ⊢
      have HN := Lib.hid hn
      clear hn hk hlt
      go_wp2_with fail
      go_loop [5, 6] (fun s i => ∃ j : Nat, j ≤ L.length ∧ i = .int .i64 j ∧ s = .bool (isP (L.take j) n)) (fun _ i => L.length - (intOf i).toNat)
      case atStart => exact ⟨0, by omega, rfl, by simp [isP]⟩
      case round =>
        obtain ⟨j, hj, rfl, rfl⟩ := hrel
        by_cases hlt : j < L.length
        · obtain ⟨g, rfl⟩ := HA.out (by omega)
          have hcell := HV.out.cell (N64_get L j hlt)
          have hq := H2.out L[j] (List.getElem_mem hlt)
          have hs := isP_succ L n j hlt
          generalize L[j] = q at hcell hq hs
          have m2 : (j : Int) < (L.length : Int) := by omega
          have m3 : ¬ (q : Int) = 0 := by omega
          have HS := Lib.hid hs
          cases hb : isP (L.take j) n
          · rw [hb] at hs
            have HS := Lib.hid hs
            clear hs hb
            go_wp2_with fail
            refine ⟨⟨j + 1, by omega, rfl, by rw [HS.out]; rfl⟩, ?_⟩
            simp [intOf]; omega
          · rw [hb] at hs
            have HS := Lib.hid hs
            clear hs hb
            go_wp2_with fail
            have e : ((n : Int) % (q : Int) != 0) = (n % q != 0) := by
              rw [Bool.eq_iff_iff, bne_iff_ne, bne_iff_ne]; omega
            refine ⟨⟨j + 1, by omega, rfl, by rw [HS.out, e]; rfl⟩, ?_⟩
            simp [intOf]; omega
        · have hj2 : j = L.length := by omega
          have m2 : ¬ (j : Int) < (L.length : Int) := by omega
          have m3 : decide (j < L.length) = false := by simp; omega
          have hwr : IntKind.u64.wrap ((n : Int) + 1) = (n : Int) + 1 := by rw [IntKind.wrap_u64]; omega
          rw [hj2, List.take_length] at *
          cases hb : isP L n
          · have hs := HSU.out
            rw [hb] at hs
            have HS := Lib.hid (show primesTo (k + 1) = L from hs)
            clear hs hb HSU
            go_wp2_with fail
            have hv := HV.out
            refine ⟨⟨k + 1, by have := HN.out; omega, by have := HN.out; rw [this]; congr 1, by rw [HS.out]; exact hv⟩, ?_⟩
            have e1 : (intOf (.int .u64 ((n : Int) + 1))).toNat = n + 1 := by simp only [intOf]; omega
            have e2 : (intOf (.int .u64 (n : Int))).toNat = n := by simp only [intOf]; omega
            rw [e1, e2]; omega
          · have hs := HSU.out
            rw [hb] at hs
            have HS := Lib.hid (show primesTo (k + 1) = L ++ [n] from hs)
            clear hs hb HSU
            have hN : (N64 L).length ≤ 2000000 := by rw [N64_length]; omega
            have HNL := Lib.hid hN
            clear hN
            go_wp2_with (at_builtin; refine wpList_pushV rfl _ _ 67 49 rfl Tryd.underlying67 info49 rfl (by decide) (N64 L) _ (.int .u64 (n : Int)) rfl rfl rfl HNL.out HV.out ?_; intro v5 w5 HQ5)
            have hv := HQ5.out
            have e : N64 (L ++ [n]) = N64 L ++ [.int .u64 (n : Int)] := by simp [N64]
            rw [← e] at hv
            refine ⟨⟨k + 1, by have := HN.out; omega, by have := HN.out; rw [this]; congr 1, by rw [HS.out]; exact hv⟩, ?_⟩
            have e1 : (intOf (.int .u64 ((n : Int) + 1))).toNat = n + 1 := by simp only [intOf]; omega
            have e2 : (intOf (.int .u64 (n : Int))).toNat = n := by simp only [intOf]; omega
            rw [e1, e2]; omega
    · have hk2 : k = 310 := by omega
      subst hk2
      have h64 : (primesTo 310).length = 64 := primes_64
      have m1 : ¬ ((primesTo 310).length : Int) < 64 := by rw [h64]; decide
      rw [h64] at *
      go_wp2_with fail
      go_ret
      exact ⟨_, rfl, HV.out⟩
end Go.Proofs.YtccfdobogbiomaaDoor
