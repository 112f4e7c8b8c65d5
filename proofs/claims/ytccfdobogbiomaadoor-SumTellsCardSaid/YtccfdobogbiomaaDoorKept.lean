/-
  KeptBytes: what was lent is as it was.
-/
import Derived.Test.YtccfdobogbiomaaDoorLent
import Derived.Deep.QuietTactic
import Derived.BigQuiet
import Derived.IntWalk
namespace Go.Proofs.YtccfdobogbiomaaDoor
open Go.RowKit Sha

theorem OwnB.cell {w : World} {n c : Nat} {l : List UInt8} (h : OwnB w n c l) (j : Nat) (hj : j < l.length) : w.cell? ⟨n, j, none⟩ = some (.int .u8 (l.getD j 0).toNat) := by
  have := h.cells (g := n) rfl j _ (by rw [Array.getElem?_toList, B8_get l j hj])
  rwa [Addr.add_mid, Nat.zero_add] at this
theorem OwnB.room {w : World} {n c : Nat} {l : List UInt8} (h : OwnB w n c l) : l.length ≤ c ∧ c ≤ maxLen ∧ n < w.heap.size := by
  rcases h.2 with ⟨e, _⟩ | ⟨g', cap, cur, e, _, hb, h1, h2, _⟩
  · cases e
  · cases e; exact ⟨h1, h2, (Array.getElem?_eq_some_iff.1 hb).1⟩
theorem cell_drewN (w : World) (q : Nat) (a : Addr) : (w.drewN q).cell? a = w.cell? a := rfl

set_option maxRecDepth 100000 in
set_option maxHeartbeats 2000000 in
theorem kept_any (pa : Option Addr) (xs : List UInt8) (pc n c : Nat) (w : World) (hg : Good w ⟨pa, xs, pc⟩) (hx : xs.length ≤ 3000) (ho : OwnB w n c (xs ++ marks 12)) :
    Calls Tryd.prog 27 #[.slice (some ⟨n, 0, none⟩) xs.length c, .slice pa xs.length pc] w fun e w' => e = .returned (.bool true) ∧ ∃ q, w.drewN q = w' := by
  obtain ⟨r1, r2, _⟩ := ho.room
  rw [List.length_append, marks_length] at r1
  have HG := Lib.hid hg
  have HO := Lib.hid ho
  have m1 : (xs.length : Int) + 12 ≤ (c : Int) := by omega
  have m2 : ((xs.length : Int) + 12).toNat = xs.length + 12 := by omega
  have m3 : ¬ c = 0 := by omega
  have m4 : ((xs.length : Int) != (xs.length : Int)) = false := by simp
  clear hg ho
  go_enter Tryd.func27, Tryd.ntmps27
  go_wp2_with fail
  go_loopw [6] (fun i wr => ∃ k q : Nat, k ≤ xs.length + 12 ∧ i = .int .i64 k ∧ wr = w.drewN q) (fun i _ => xs.length + 12 - (intOf i).toNat)
  case atStart => exact ⟨0, 0, by omega, rfl, rfl⟩
  case round =>
    obtain ⟨k, q, hk, rfl, rfl⟩ := hrel
    by_cases hlt : k < xs.length + 12
    · have i1 : (k : Int) < (xs.length : Int) + 12 := by omega
      have cx : (w.drewN q).cell? ⟨n, k, none⟩ = some (.int .u8 ((xs ++ marks 12).getD k 0).toNat) := HO.out.cell k (by rw [List.length_append, marks_length]; exact hlt)
      have f0 : (0 : Int) ≤ (k : Int) := by omega
      by_cases hl : k < xs.length
      · obtain ⟨g, off, rfl, hgw, hs⟩ := HG.out.2.2 (by show 0 < xs.length; omega)
        have cy : (w.drewN q).cell? ⟨g, off + k, none⟩ = some (.int .u8 (xs.getD k 0).toNat) := hs k hl
        have e : (xs ++ marks 12).getD k 0 = xs.getD k 0 := by rw [List.getD_eq_getElem?_getD, List.getElem?_append_left hl, ← List.getD_eq_getElem?_getD]
        rw [e] at cx
        generalize xs.getD k 0 = x at cx cy
        have i2 : (k : Int) < (xs.length : Int) := by omega
        have i3 : decide (xs.length ≤ k) = false := by simp; omega
        obtain ⟨w2, hw2⟩ : ∃ w2, w2 = w.drewN q := ⟨_, rfl⟩
        rw [← hw2] at cx cy ⊢
        have HW2 := Lib.hid hw2
        clear e hs hgw hw2
        go_wp2_with fail
        go_quiet (fail)
        go_wp2_with fail
        refine ⟨⟨k + 1, q + nq, by omega, by go_num, by rw [HW2.out, World.drewN_drewN]⟩, ?_⟩
        simp [intOf]; omega
      · have e : (xs ++ marks 12).getD k 0 = mark8 (k - xs.length) := by
          rw [List.getD_eq_getElem?_getD, List.getElem?_append_right (by omega)]
          simp [marks, show k - xs.length < 12 by omega]
        rw [e] at cx
        have i2 : decide (k < xs.length) = false := by simp; omega
        have i3 : (xs.length : Int) ≤ (k : Int) := by omega
        obtain ⟨d, hd⟩ : ∃ d : Nat, d = k - xs.length := ⟨_, rfl⟩
        rw [← hd] at cx
        have hmk := fun W => (mark_any d (by omega) W).mono fun e w' (hh : e = .returned (.int .u8 (mark8 d).toNat) ∧ W = w') => (⟨hh.1, hh.2.symm⟩ : e = .returned (.int .u8 (mark8 d).toNat) ∧ w' = W)
        have hw : IntKind.i64.wrap ((k : Int) - (xs.length : Int)) = (d : Int) := by rw [IntWalk.i64_in _ (by omega)]; omega
        obtain ⟨y, hy⟩ : ∃ y, y = mark8 d := ⟨_, rfl⟩
        rw [← hy] at cx hmk
        have HMK := Lib.hid hmk
        clear e hmk hy hd
        obtain ⟨w2, hw2⟩ : ∃ w2, w2 = w.drewN q := ⟨_, rfl⟩
        rw [← hw2] at cx ⊢
        have HW2 := Lib.hid hw2
        clear hw2
        go_wp2_with fail
        go_quiet ((go_at_call 31; with_reducible exact Calls.quiet_of_same (HMK.out _)))
        go_wp2_with fail
        refine ⟨⟨k + 1, q + nq, by omega, by go_num, by rw [HW2.out, World.drewN_drewN]⟩, ?_⟩
        simp [intOf]; omega
    · have hd : decide (k < xs.length + 12) = false := by simp; omega
      have i1 : ¬ (k : Int) < (xs.length : Int) + 12 := by omega
      go_wp2_with fail
      go_ret
      exact ⟨rfl, q, rfl⟩
end Go.Proofs.YtccfdobogbiomaaDoor
