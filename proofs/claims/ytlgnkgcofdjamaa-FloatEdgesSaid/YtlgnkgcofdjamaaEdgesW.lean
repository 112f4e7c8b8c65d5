/-
  FloatEdges' walk.
-/
import Derived.Test.YtlgnkgcofdjamaaEdgeV
import Derived.Test.YtlgnkgcofdjamaaLawTells
namespace Go.Proofs.Ytlgnkgcofdjamaa
open Go.RowKit

theorem wrap_lo (x : Int) : -9223372036854775808 ≤ IntKind.i64.wrap x := by rw [IntKind.wrap_i64]; omega
theorem wrap_hi (x : Int) : IntKind.i64.wrap x < 9223372036854775808 := by rw [IntKind.wrap_i64]; omega
theorem wrap64_lo (x : Int) : -9223372036854775808 ≤ wrap64 x := by unfold wrap64; omega
theorem wrap64_hi (x : Int) : wrap64 x < 9223372036854775808 := by unfold wrap64; omega
theorem told_word {o : Option Nat} (h : ∀ r, o = some r → r < 2 ^ 64) : o.getD NAN < 2 ^ 64 := by
  cases o with
  | none => decide
  | some r => exact h r rfl
theorem sum_word (a b : Nat) : addB a b < 2 ^ 64 := told_word fun _ h => Ieee.Format.add_lt _ h
theorem product_word (a b : Nat) : mulB a b < 2 ^ 64 := told_word fun _ h => Ieee.Format.mul_lt _ h
theorem goes_tells (w : World) (a b : Nat) (n : Int) (ha : a < 2 ^ 64) (hb : b < 2 ^ 64) (h1 : -9223372036854775808 ≤ n) (h2 : n < 9223372036854775808) : Goes w 3 #[.int .u64 a, .int .u64 b, .int .i64 n] (.bool true) :=
  goes_of fun W => tells_walk a b n ha hb h1 h2 W
/-- The block g holds 76 words, and goes on holding them. -/
def Ends (w1 : World) (g : Nat) : Prop := ∀ i, i < 76 → ∃ n : Nat, n < 2 ^ 64 ∧ ∀ W, Below w1.heap.size w1 W → W.cell? ⟨g, i, none⟩ = some (.int .u64 (n : Int))

set_option maxRecDepth 100000 in
set_option maxHeartbeats 4000000 in
theorem edges4_any (w : World) : Calls Try.prog 4 #[] w fun e w' => e = .returned (.bool true) ∧ Below w.heap.size w w' := by
  have KE := Lib.hid (edges_any w)
  go_enter Try.func4, Try.ntmps4
  go_wp2_with fail
  refine KE.out.mono ?_
  rintro e w1 ⟨v, rfl, L, hL, hLw, hv⟩
  obtain ⟨A, c, hv2, hA⟩ := hv.shape
  rw [W64_length] at hv2 hA
  obtain ⟨g, rfl⟩ := hA (by omega)
  rw [show L.length = 76 from hL] at hv2
  subst hv2
  have hget : Ends w1 g := fun i hi => ⟨L[i]'(by omega), hLw _ (List.getElem_mem _), fun W hb => (hv.below hb (Nat.le_refl _)).cell (W64_get L i (by omega))⟩
  have HG := Lib.hid hget
  have HB := Lib.hid hv.2
  clear hget hv hL hLw hA KE
  go_wp2_with fail
  go_loopw [2] (fun i W => ∃ j : Nat, j ≤ 76 ∧ i = .int .i64 j ∧ Below w1.heap.size w1 W) (fun i _ => 76 - (intOf i).toNat)
  case atStart => exact ⟨0, by omega, rfl, Below.refl _ _⟩
  case round =>
    obtain ⟨i, hi, rfl, hb⟩ := hrel
    by_cases hlt : i < 76
    · have m1 : (i : Int) < 76 := by omega
      have m0 : (0 : Int) ≤ (i : Int) := by omega
      obtain ⟨p, hp, hpc⟩ := HG.out i hlt
      have HP := Lib.hid hp
      have HPC := Lib.hid hpc
      clear hp hpc hi
      have HLT := Lib.hid hlt
      clear hlt
      go_wp2_with fail
      go_loopw [3] (fun i W => ∃ j : Nat, j ≤ 76 ∧ i = .int .i64 j ∧ Below w1.heap.size w1 W) (fun i _ => 76 - (intOf i).toNat)
      case atStart => exact ⟨0, by omega, rfl, hb⟩
      case round =>
        clear hb
        obtain ⟨k, hk, rfl, hb⟩ := hrel
        by_cases hlt : k < 76
        · have m2 : (k : Int) < 76 := by omega
          have m3 : (0 : Int) ≤ (k : Int) := by omega
          obtain ⟨q, hq, hqc⟩ := HG.out k hlt
          have HQ := Lib.hid hq
          have HQC := Lib.hid hqc
          clear hq hqc hk
          go_upto_region 8 with fail
          go_cut [4] from 83 (fun v W => ∃ n : Int, v = .int .i64 n ∧ -9223372036854775808 ≤ n ∧ n < 9223372036854775808 ∧ Below w1.heap.size w1 W)
          case first =>
            go_wp2_with fail
            go_meet
            case rel => exact ⟨_, rfl, wrap64_lo _, wrap64_hi _, hb⟩
          case rest =>
            clear hb
            rename_i wc _ _ _ _ _ _ _ _ _ _
            obtain ⟨n, rfl, hn1, hn2, hb⟩ := hcut
            have T1 := Lib.hid (goes_tells w1 p q n HP.out HQ.out hn1 hn2)
            have C1 : Hid (Goes w1 16 #[.int .u64 p, .int .u64 q] (.int .u64 (addB p q))) := Lib.hid (goes_of fun W => add_any W p q)
            have C2 : Hid (Goes w1 20 #[.int .u64 p, .int .u64 q] (.int .u64 (mulB p q))) := Lib.hid (goes_of fun W => mul_any W p q)
            have h1 := sum_word p q
            have h2 := product_word p q
            generalize addB p q = s at C1 h1
            generalize mulB p q = t at C2 h2
            obtain ⟨m, hm⟩ : ∃ m, IntKind.i64.wrap (-n) = m := ⟨_, rfl⟩
            have T2 := Lib.hid (goes_tells w1 s q m h1 HQ.out (hm ▸ wrap_lo _) (hm ▸ wrap_hi _))
            have T3 := Lib.hid (goes_tells w1 t p n h2 HP.out hn1 hn2)
            clear h1 h2 hn1 hn2
            have HSK : Hid (∀ W, Below w1.heap.size w1 W → W.cell? ⟨g, i, none⟩ = some (.int .u64 (p : Int)) ∧ W.cell? ⟨g, k, none⟩ = some (.int .u64 (q : Int))) := Lib.hid fun W h => ⟨HPC.out W h, HQC.out W h⟩
            have hbd : Below w1.heap.size w1 wc.drew := hb.trans ⟨rfl, rfl, rfl, Nat.le_refl _, fun _ _ => rfl⟩
            go_upto_region 9 with fail
            go_region_held3 (fun W => W.cell? ⟨g, i, none⟩ = some (.int .u64 (p : Int)) ∧ W.cell? ⟨g, k, none⟩ = some (.int .u64 (q : Int))) (first | exact HSK.out _ hbd | exact HSK.out _ (by assumption)) (first
              | ((with_reducible refine (T1.out.step hbd).mono ?_); rintro e w2 ⟨rfl, hb2⟩)
              | ((with_reducible refine (C1.out.step hb2).mono ?_); rintro e w3 ⟨rfl, hb3⟩)
              | ((with_reducible refine (T2.out.step hb3).mono ?_); rintro e w4 ⟨rfl, hb4⟩)
              | ((with_reducible refine (C2.out.step hb4).mono ?_); rintro e w5 ⟨rfl, hb5⟩)
              | ((with_reducible refine (T3.out.step hb5).mono ?_); rintro e w6 ⟨rfl, hb6⟩))
            go_wp2_with fail
            refine ⟨⟨k + 1, by omega, rfl, hb6⟩, ?_⟩
            simp [intOf]; omega
        · have hk2 : k = 76 := by omega
          subst hk2
          go_wp2_with fail
          refine ⟨⟨i + 1, by have := HLT.out; omega, rfl, hb⟩, ?_⟩
          have := HLT.out
          simp [intOf]; omega
    · have hi2 : i = 76 := by omega
      subst hi2
      go_wp2_with fail
      refine ((goes_tells w1 0 0 (-9223372036854775808) (by omega) (by omega) (by omega) (by omega)).step hb).mono ?_
      rintro e w2 ⟨rfl, hb2⟩
      go_wp2_with fail
      refine ((goes_tells w1 0 0 9223372036854775807 (by omega) (by omega) (by omega) (by omega)).step hb2).mono ?_
      rintro e w3 ⟨rfl, hb3⟩
      go_wp2_with fail
      refine ((goes_of awake_any : Goes w1 34 #[] (.bool true)).step hb3).mono ?_
      rintro e w4 ⟨rfl, hb4⟩
      go_wp2_with fail
      go_ret
      exact ⟨rfl, HB.out.trans (hb4.mono HB.out.size)⟩
end Go.Proofs.Ytlgnkgcofdjamaa
