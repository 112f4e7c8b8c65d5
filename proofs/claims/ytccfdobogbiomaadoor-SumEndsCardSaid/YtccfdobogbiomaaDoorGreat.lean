/-
  great: are rows of bytes more than is gone through in time? Each is shorter than 2^47 bytes, or that.
-/
import Derived.Test.YtccfdobogbiomaaDoorOf
namespace Go.Proofs.YtccfdobogbiomaaDoor
open Go.RowKit Sha

def total (ps : List Part) (k : Nat) : Nat := ps.length + (joined (ps.take k)).length
theorem total_succ (ps : List Part) (k : Nat) (hk : k < ps.length) : total ps (k + 1) = total ps k + (ps.getD k ⟨none, [], 0⟩).xs.length := by
  unfold total; rw [joined_take_succ ps k hk, List.length_append]; omega
theorem total_le (ps : List Part) (k : Nat) : total ps k ≤ total ps ps.length := by
  unfold total; rw [List.take_length]; have := joined_take_le ps k; omega

set_option maxRecDepth 100000 in
set_option maxHeartbeats 2000000 in
theorem great_any (ps : List Part) (w : World) (v : Option Addr) (cap : Nat) (hm : ps.length ≤ maxLen) (hlen : ∀ p, p ∈ ps → p.xs.length ≤ 140737488355328)
    (hv : 0 < ps.length → ∃ g off, v = some ⟨g, off, none⟩ ∧ PSrc w g off ps) :
    Calls Tryd.prog 7 #[.slice v ps.length cap] w fun e w' => e = .returned (.bool (decide (3000 < total ps ps.length))) ∧ w = w' := by
  have HLEN := Lib.hid hlen
  have HV := Lib.hid hv
  have hm2 : ps.length ≤ 9223372036854775807 := by unfold maxLen at hm; omega
  have HM := Lib.hid hm2
  clear hlen hv hm hm2
  go_enter Tryd.func7, Tryd.ntmps7
  go_wp2_with fail
  go_loop [3, 4] (fun n i => ∃ k : Nat, k ≤ ps.length ∧ i = .int .i64 k ∧ n = .int .i64 (total ps k) ∧ total ps k ≤ 9223372036854775807) (fun _ i => ps.length - (intOf i).toNat)
  case atStart => exact ⟨0, by omega, rfl, by unfold total; simp [joined], by unfold total; simp [joined]; exact HM.out⟩
  case round =>
    obtain ⟨k, hk, rfl, rfl, hb⟩ := hrel
    by_cases hlt : k < ps.length
    · by_cases h3 : total ps k ≤ 3000
      · obtain ⟨g, off, rfl, hps⟩ := HV.out (by omega)
        have hcell := hps k hlt
        have hsucc := total_succ ps k hlt
        have hl : (ps.getD k ⟨none, [], 0⟩).xs.length ≤ 140737488355328 := HLEN.out _ (by simp [hlt])
        unfold Part.val at hcell
        generalize ps.getD k ⟨none, [], 0⟩ = p at hcell hsucc hl
        generalize p.xs.length = m at hcell hsucc hl
        generalize p.at_ = pa at hcell
        generalize p.cap = pc at hcell
        have HSU := Lib.hid hsucc
        clear hsucc hps hb
        have hkm := HM.out
        have m1 : (k : Int) < (ps.length : Int) := by omega
        have m2 : (total ps k : Int) ≤ 3000 := by omega
        generalize total ps k = t at h3 m2 HSU ⊢
        go_wp2_with fail
        have e1 : Value.int .i64 ((t : Int) + (m : Int)) = Value.int .i64 ((total ps (k + 1) : Nat) : Int) := by rw [HSU.out]; rfl
        have e2 : total ps (k + 1) ≤ 9223372036854775807 := by rw [HSU.out]; omega
        refine ⟨⟨k + 1, by omega, rfl, e1, e2⟩, ?_⟩
        simp [intOf]; omega
      · have hT : 3000 < total ps ps.length := by have := total_le ps k; omega
        have HT := Lib.hid hT
        have h4 : ¬ (total ps k : Int) ≤ 3000 := by omega
        have h5 : (3000 : Int) < (total ps k : Int) := by omega
        have hkm := HM.out
        generalize total ps k = t at h3 h4 h5 hb ⊢
        clear hT hk
        go_wp2_with fail
        go_ret
        exact ⟨by rw [decide_eq_true HT.out]; rfl, rfl⟩
    · have hkl : k = ps.length := by omega
      rw [hkl]
      have hkm := HM.out
      obtain ⟨t, ht⟩ : ∃ t, t = total ps ps.length := ⟨_, rfl⟩
      rw [← ht]
      have HT := Lib.hid ht
      clear ht
      clear hkl hk hlt hb
      go_wp2_with fail
      go_ret
      refine ⟨?_, rfl⟩
      show Ending.returned (.bool _) = _
      have e : (decide ((3000 : Int) < (t : Int))) = decide (3000 < total ps ps.length) := by rw [← HT.out]; simp; omega
      exact congrArg (fun b => Ending.returned (.bool b)) e
end Go.Proofs.YtccfdobogbiomaaDoor
