/-
  great: are calls more than is gone through in time?
-/
import Derived.Test.YtjbjagdpemnhiaaGreatPutD
namespace Go.Proofs.YtjbjagdpemnhiaaGreat
open Go.RowKit

theorem PRow.cell {W : World} {g off : Nat} {ps : List PutD} (h : PRow W g off ps) {i : Nat} {p : PutD} (hi : ps[i]? = some p) {j : Nat} {v : Value} (hv : p.cells[j]? = some v) : W.cell? ⟨g, off + i * 37 + j, none⟩ = some v := by
  rw [Nat.add_assoc]; exact (h i p hi).2 j v hv
theorem PRow.below {B : Nat} {W W' : World} {g off : Nat} {ps : List PutD} (h : PRow W g off ps) (hW : W.heap.size ≤ B) (hb : Below B W W') : PRow W' g off ps := by
  intro i p hi
  obtain ⟨hok, hc⟩ := h i p hi
  refine ⟨⟨hok.hlen, hok.wlt, hok.lo, hok.hi, hok.slen, ?_, hok.xlen⟩, fun j v hj => (hb.cell (p := ⟨g, off + (i * 37 + j), none⟩) (Nat.lt_of_lt_of_le (block_lt (hc j v hj)) hW)).trans (hc j v hj)⟩
  exact hok.raw.below (hb.mono hW)
/-- How many bytes the first n have. -/
def sumB (ps : List PutD) : Nat → Nat
  | 0 => 0
  | n + 1 => sumB ps n + (match ps[n]? with | some p => p.xs.length | none => 0)
theorem sumB_succ {ps : List PutD} {n : Nat} {p : PutD} (h : ps[n]? = some p) : sumB ps (n + 1) = sumB ps n + p.xs.length := by simp [sumB, h]
def Small (s : ByteArray) : Prop := s.size ≤ 300 ∨ 65536 ≤ s.size
/-- What 'great' told: if no, there is little of all. -/
def Told (ps : List PutD) (nb : Nat) (w : World) (e : Ending) (w' : World) : Prop :=
  w = w' ∧ ∃ r, e = .returned (.bool r) ∧ (r = false → ps.length + nb + sumB ps ps.length ≤ 300 ∧ ∀ (i : Nat) (p : PutD), ps[i]? = some p → Small p.s)
theorem Told.yes {ps : List PutD} {nb : Nat} {w : World} : Told ps nb w (.returned (.bool true)) w := ⟨rfl, true, rfl, fun h => by cases h⟩
theorem PutD.rawv {p : PutD} {W : World} (h : p.Ok W) : ∃ A c, p.bv = .slice A p.xs.length c := by
  rcases h.raw with ⟨h1, h2⟩ | ⟨ad, c, h1, _⟩
  · exact ⟨none, 0, by rw [h1, h2]; rfl⟩
  · exact ⟨_, _, h1⟩

set_option maxRecDepth 1000000 in
set_option maxHeartbeats 1000000 in
theorem great_any (w : World) (va : Option Addr) (ps : List PutD) (cap : Nat) (A : Option Addr) (nb c : Nat) (hc : ps.length ≤ cap) (hm : cap ≤ 140737488355328) (hnb : nb ≤ 140737488355328)
    (hrow : 0 < ps.length → ∃ g off, va = some ⟨g, off, none⟩ ∧ g < w.heap.size ∧ PRow w g off ps) :
    Calls Tryz.prog 7 #[.slice va ps.length cap, .slice A nb c] w (Told ps nb w) := by
  have HR := Lib.hid hrow
  clear hrow
  have hpl : ps.length ≤ 140737488355328 := by omega
  go_enter Tryz.func7, Tryz.ntmps7
  go_wp2_with fail
  go_loop [5, 6] (fun n i => ∃ k : Nat, k ≤ ps.length ∧ i = .int .i64 k ∧ n = .int .i64 ((ps.length + nb + sumB ps k : Nat) : Int) ∧ ps.length + nb + sumB ps k ≤ 2000000000000000000 ∧ (∀ (i : Nat) (p : PutD), i < k → ps[i]? = some p → Small p.s)) (fun _ i => ps.length - (intOf i).toNat)
  case atStart => exact ⟨0, Nat.zero_le _, rfl, by simp [sumB], by simp [sumB]; omega, fun i p hi => absurd hi (by omega)⟩
  case round =>
    obtain ⟨k, hk, rfl, rfl, hN, hsm⟩ := hrel
    have HSM := Lib.hid hsm
    clear hsm
    obtain ⟨N, hNN⟩ : ∃ N, N = ps.length + nb + sumB ps k := ⟨_, rfl⟩
    rw [← hNN] at hN ⊢
    have HN := Lib.hid hNN
    clear hNN
    by_cases hlt : k < ps.length
    · by_cases hle : N ≤ 300
      · obtain ⟨g, off, rfl, hg, hr⟩ := HR.out (by omega)
        have hp : ps[k]? = some ps[k] := List.getElem?_eq_getElem hlt
        obtain ⟨p, hpp⟩ : ∃ p, p = ps[k] := ⟨_, rfl⟩
        rw [← hpp] at hp
        have hok := (hr k p hp).1
        have hv := PutD.v hok
        obtain ⟨A2, c2, hbv⟩ := PutD.rawv hok
        have c35 := hr.cell hp hv.raw
        have c36 := hr.cell hp hv.text
        rw [hbv] at c35
        have hx := hok.xlen
        have HP := Lib.hid hp
        have E1 := Lib.hid (show (↑N : Int) + (p.xs.length : Int) = ((N + p.xs.length : Nat) : Int) by simp)
        clear hpp hr hok hv hbv hp
        by_cases hs1 : 300 < p.s.size
        · have i1 : decide ((300 : Int) < (p.s.size : Int)) = true := by simp; omega
          by_cases hs2 : p.s.size < 65536
          · have i2 : decide ((p.s.size : Int) < 65536) = true := by simp; omega
            clear hs1 hs2
            go_wp2_with fail
            go_ret
            exact Told.yes
          · have i2 : decide ((p.s.size : Int) < 65536) = false := by simp; omega
            have HS2 := Lib.hid hs2
            clear hs1 hs2
            go_wp2_with fail
            go_round
            case rel =>
              refine ⟨k + 1, by omega, by go_num, ?_, ?_, ?_⟩
              · rw [sumB_succ HP.out, E1.out, HN.out, ← Nat.add_assoc]
              · rw [sumB_succ HP.out, ← Nat.add_assoc, ← HN.out]; omega
              · intro i q hi hq
                by_cases he : i = k
                · subst he
                  rw [HP.out] at hq
                  cases hq
                  exact .inr (by have := HS2.out; omega)
                · exact HSM.out i q (by omega) hq
            case measure => simp [intOf]; omega
        · have i1 : ¬ (300 : Int) < (p.s.size : Int) := by omega
          go_wp2_with fail
          go_round
          case rel =>
            refine ⟨k + 1, by omega, by go_num, ?_, ?_, ?_⟩
            · rw [sumB_succ HP.out, E1.out, HN.out, ← Nat.add_assoc]
            · rw [sumB_succ HP.out, ← Nat.add_assoc, ← HN.out]; omega
            · intro i q hi hq
              by_cases he : i = k
              · subst he
                rw [HP.out] at hq
                cases hq
                exact .inl (by omega)
              · exact HSM.out i q (by omega) hq
          case measure => simp [intOf]; omega
      · have d1 : ¬ (N : Int) ≤ 300 := by omega
        have d2 : (300 : Int) < (N : Int) := by omega
        go_wp2_with fail
        go_ret
        exact Told.yes
    · have hkl : k = ps.length := by omega
      subst hkl
      by_cases hle : N ≤ 300
      · have d2 : ¬ (300 : Int) < (N : Int) := by omega
        have hend : Told ps nb w (.returned (.bool false)) w := ⟨rfl, false, rfl, fun _ => ⟨by rw [← HN.out]; exact hle, fun i p hi => HSM.out i p (List.getElem?_eq_some_iff.1 hi).1 hi⟩⟩
        have HE := Lib.hid hend
        clear hend
        go_wp2_with fail
        go_ret
        exact HE.out
      · have d2 : (300 : Int) < (N : Int) := by omega
        go_wp2_with fail
        go_ret
        exact Told.yes
end Go.Proofs.YtjbjagdpemnhiaaGreat
