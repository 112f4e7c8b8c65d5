/-
  KeptHashes: what was lent is as it was.
-/
import Derived.Test.YtccfdobogbiomaaDoorLentH
import Derived.Test.YtccfdobogbiomaaDoorSame
import Derived.Test.YtccfdobogbiomaaDoorTrio
import Derived.Lib.QuietBelow
import Derived.BigQuiet
import Derived.IntWalk
namespace Go.Proofs.YtccfdobogbiomaaDoor
open Go.RowKit Sha Go.Sort

/-- A hash in the middle of a block. -/
def HashAt (w : World) (b off : Nat) (l : List UInt8) : Prop := l.length = 32 ∧ w.rangeAt b off (B8 l).toList ∧ b < w.heap.size
theorem HashAt.below {B : Nat} {w w' : World} {b off : Nat} {l : List UInt8} (h : HashAt w b off l) (hb : Below B w w') (hB : b < B) : HashAt w' b off l :=
  ⟨h.1, fun j v hv => (hb.cell (p := ⟨b, off + j, none⟩) hB).trans (h.2.1 j v hv), Nat.lt_of_lt_of_le h.2.2 hb.size⟩
theorem hash_src {w : World} {g off : Nat} {F : List UInt8} (h : Src w g off F) (hg : g < w.heap.size) (i : Nat) (hi : 32 * i + 32 ≤ F.length) : HashAt w g (off + i * 32) ((F.drop (32 * i)).take 32) := by
  have hl : ((F.drop (32 * i)).take 32).length = 32 := by rw [List.length_take, List.length_drop]; omega
  refine ⟨hl, fun j v hv => ?_, hg⟩
  have hj : j < 32 := by
    have := (List.getElem?_eq_some_iff.1 hv).1
    rwa [Array.length_toList, B8_size, hl] at this
  rw [Array.getElem?_toList, B8_get _ j (by omega)] at hv
  rw [← hv]
  have := h (32 * i + j) (by omega)
  rw [show off + i * 32 + j = off + (32 * i + j) by omega, this]
  simp only [List.getD_eq_getElem?_getD]
  rw [List.getElem?_take_of_lt (by omega), List.getElem?_drop]
theorem OwnH.src {w : World} {n c k : Nat} {l : List UInt8} (h : OwnH w n c k l) : Src w n 0 l ∧ n < w.heap.size ∧ k ≤ c ∧ c ≤ maxLen := by
  refine ⟨fun j hj => ?_, ?_⟩
  · have := h.cells (g := n) rfl j _ (by rw [Array.getElem?_toList, B8_get l j hj])
    rwa [Addr.add_mid] at this
  · rcases h.2 with ⟨e, _⟩ | ⟨g', cap, cur, e, _, hb, h1, h2, _⟩
    · cases e
    · cases e; exact ⟨(Array.getElem?_eq_some_iff.1 hb).1, h1, h2⟩
theorem wpQuiet_load27 {w : World} {ops : Array Oper} {rest : List Oper} {o : Oper} {a : Act} {Q : Act → Prop} (hw : Region.wanted o (yielded ops a.tmps) = true) (x : Operand) (ho : o.op = .load 27 x) (b off : Nat) (hx : a.eval x = .pointer (some ⟨b, off, none⟩))
    (l : List UInt8) (hl : HashAt w b off l)
    (h : wpQuiet Tryd.prog ops (fun w' => ∃ p : Regrown, w' = grow (redrawn w p.d) p.os) Q rest (a.put o.dst (.agg (B8 l)))) : wpQuiet Tryd.prog ops (fun w' => ∃ p : Regrown, w' = grow (redrawn w p.d) p.os) Q (o :: rest) a := by
  unfold wpQuiet
  rw [if_pos hw]
  refine ⟨.agg (B8 l), fun w' ⟨p, e⟩ => ?_, h⟩
  have hr := (hl.below (below_regrown w p.d p.os) hl.2.2).2.1
  rw [← e] at hr
  unfold Oper.quietAt execOp
  have hrun := run_loadVar_mid (P := Tryd.prog) w' b off 27 (B8 l).toList _ hr Tryd.underlying27 rfl (by rw [Array.length_toList, B8_size, hl.1]; exact info27)
  simp only [ho, hx, Instr.loadAt, Instr.sureAddr, Sem.run_bind, Sem.run_pure, Result.andThen_ok, hrun]
  exact ⟨rfl, by simp⟩

set_option maxRecDepth 100000 in
set_option maxHeartbeats 1000000 in
theorem kepth_any (m : Nat) (F : List UInt8) (v : Option Addr) (cap n c : Nat) (w : World) (hm : m ≤ 40) (hF : F.length = 32 * m)
    (hsrc : 0 < m → ∃ g off, v = some ⟨g, off, none⟩ ∧ g < w.heap.size ∧ Src w g off F) (ho : OwnH w n c (m + 12) (F ++ marksH 12)) :
    Calls Tryd.prog 16 #[.slice (some ⟨n, 0, none⟩) m c, .slice v m cap] w fun e w' => e = .returned (.bool true) ∧ Below w.heap.size w w' := by
  obtain ⟨hos, hn, r1, r2⟩ := ho.src
  have HS := Lib.hid hsrc
  have HO := Lib.hid hos
  have HF := Lib.hid hF
  have HN := Lib.hid hn
  have m1 : (m : Int) + 12 ≤ (c : Int) := by omega
  have m2 : ((m : Int) + 12).toNat = m + 12 := by omega
  have m3 : ¬ c = 0 := by omega
  have m4 : ((m : Int) != (m : Int)) = false := by simp
  have hlx : (F ++ marksH 12).length = 32 * (m + 12) := by rw [List.length_append, hF, marksH_length]; omega
  have HLX := Lib.hid hlx
  clear hsrc ho hos hn hF hlx
  go_enter Tryd.func16, Tryd.ntmps16
  go_wp2_with fail
  go_loopw [6] (fun i wr => ∃ k : Nat, k ≤ m + 12 ∧ i = .int .i64 k ∧ Below w.heap.size w wr) (fun i _ => m + 12 - (intOf i).toNat)
  case atStart => exact ⟨0, by omega, rfl, Below.refl _ _⟩
  case round =>
    obtain ⟨k, hk, rfl, hb⟩ := hrel
    have HB := Lib.hid hb
    clear hb
    by_cases hlt : k < m + 12
    · have i1 : (k : Int) < (m : Int) + 12 := by omega
      have f0 : (0 : Int) ≤ (k : Int) := by omega
      have hx1 : HashAt wr n (0 + k * 32) (((F ++ marksH 12).drop (32 * k)).take 32) := (hash_src HO.out HN.out k (by rw [HLX.out]; omega)).below HB.out HN.out
      rw [Nat.zero_add] at hx1
      by_cases hl : k < m
      · obtain ⟨g, off, rfl, hgw, hs⟩ := HS.out (by omega)
        have hx2 : HashAt wr g (off + k * 32) ((F.drop (32 * k)).take 32) := (hash_src hs hgw k (by rw [HF.out]; omega)).below HB.out hgw
        have e : ((F ++ marksH 12).drop (32 * k)).take 32 = (F.drop (32 * k)).take 32 := by
          rw [List.drop_append_of_le_length (by rw [HF.out]; omega), List.take_append_of_le_length (by rw [List.length_drop, HF.out]; omega)]
        rw [e] at hx1
        generalize (F.drop (32 * k)).take 32 = X at hx1 hx2
        have heq := equal_same X hx1.1
        have hgu := guard27
        have X1 := Lib.hid hx1
        have X2 := Lib.hid hx2
        have i2 : (k : Int) < (m : Int) := by omega
        have i3 : decide (m ≤ k) = false := by simp; omega
        clear e hs hgw hx1 hx2
        go_wp2_with fail
        refine wp_region_quiet_below (by kernel_rfl) (by kernel_rfl) ?_
        iterate 8 (first | go_big_quiet_step (fail) | quiet_step (fail))
        refine wpQuiet_load27 (by rfl) _ rfl n (k * 32) rfl X X1.out ?_
        iterate 3 (first | go_big_quiet_step (fail) | quiet_step (fail))
        refine wpQuiet_load27 (by rfl) _ rfl g (off + k * 32) rfl X X2.out ?_
        iterate 22 (first | go_big_quiet_step (fail) | quiet_step (fail))
        refine wpQuiet_nil ?_
        rintro w5 ⟨p, hw5⟩
        have HB5 : Hid (Below w.heap.size w w5) := Lib.hid (by rw [hw5]; exact HB.out.trans ((below_regrown wr p.d p.os).mono HB.out.size))
        clear hw5 X1 X2 heq
        go_wp2_with fail
        refine ⟨⟨k + 1, by omega, by go_num, HB5.out⟩, ?_⟩
        simp [intOf]; omega
      · have e : ((F ++ marksH 12).drop (32 * k)).take 32 = markH (markB (k - m)) := by
          have hk12 : k - m < 12 := by omega
          have : (F ++ marksH 12).drop (32 * k) = (marksH 12).drop (32 * (k - m)) := by
            rw [List.drop_append, List.drop_of_length_le (by rw [HF.out]; omega), List.nil_append, HF.out]
            congr 1; omega
          rw [this]
          generalize k - m = d at hk12
          match d, hk12 with
          | 0, _ => rfl
          | 1, _ => rfl
          | 2, _ => rfl
          | 3, _ => rfl
          | 4, _ => rfl
          | 5, _ => rfl
          | 6, _ => rfl
          | 7, _ => rfl
          | 8, _ => rfl
          | 9, _ => rfl
          | 10, _ => rfl
          | 11, _ => rfl
        rw [e] at hx1
        obtain ⟨d, hd⟩ : ∃ d : Nat, d = k - m := ⟨_, rfl⟩
        rw [← hd] at hx1
        have hmk := fun W => markhash_any d (by omega) W
        have hw : IntKind.i64.wrap ((k : Int) - (m : Int)) = (d : Int) := by rw [IntWalk.i64_in _ (by omega)]; omega
        generalize markH (markB d) = X at hx1 hmk
        have heq := equal_same X hx1.1
        have hgu := guard27
        have X1 := Lib.hid hx1
        have HMK := Lib.hid hmk
        have i2 : decide (k < m) = false := by simp; omega
        have i3 : (m : Int) ≤ (k : Int) := by omega
        clear e hx1 hmk hd
        go_wp2_with fail
        refine wp_region_quiet_below (by kernel_rfl) (by kernel_rfl) ?_
        iterate 25 (first | go_big_quiet_step (fail) | quiet_step (fail))
        refine wpQuiet_load27 (by rfl) _ rfl n (k * 32) rfl X X1.out ?_
        iterate 4 (first | go_big_quiet_step (fail) | quiet_step (fail))
        quiet_step ((go_at_call 28; with_reducible exact Calls.regrown_of (HMK.out _)))
        iterate 4 (first | go_big_quiet_step (fail) | quiet_step (fail))
        refine wpQuiet_nil ?_
        rintro w5 ⟨p, hw5⟩
        have HB5 : Hid (Below w.heap.size w w5) := Lib.hid (by rw [hw5]; exact HB.out.trans ((below_regrown wr p.d p.os).mono HB.out.size))
        clear hw5 X1 heq
        go_wp2_with fail
        refine ⟨⟨k + 1, by omega, by go_num, HB5.out⟩, ?_⟩
        simp [intOf]; omega
    · have hd : decide (k < m + 12) = false := by simp; omega
      have i1 : ¬ (k : Int) < (m : Int) + 12 := by omega
      go_wp2_with fail
      go_ret
      exact ⟨rfl, HB.out⟩
end Go.Proofs.YtccfdobogbiomaaDoor
