/-
  Rows of 35 hashes that are the same are told to be the same (19).
-/
import Derived.Test.YtgempifedhiknaaDoorWpair
import Derived.Lib.QuietBelow
import Derived.BigQuiet
import Derived.IntWalk
namespace Go.Proofs.YtgempifedhiknaaDoor
open Go.RowKit Go.Shelf Sha Go.Sort

/-- A hash in the middle of a block. -/
def HashAt (w : World) (b off : Nat) (l : List UInt8) : Prop := l.length = 32 ∧ w.rangeAt b off (B8 l).toList ∧ b < w.heap.size
theorem HashAt.below {B : Nat} {w w' : World} {b off : Nat} {l : List UInt8} (h : HashAt w b off l) (hb : Below B w w') (hB : b < B) : HashAt w' b off l :=
  ⟨h.1, fun j v hv => (hb.cell (p := ⟨b, off + j, none⟩) hB).trans (h.2.1 j v hv), Nat.lt_of_lt_of_le h.2.2 hb.size⟩
theorem hash_src {w : World} {g off : Nat} {F : List UInt8} (h : Src w g off F) (hg : g < w.heap.size) (i : Nat) (hi : 32 * i + 32 ≤ F.length) : HashAt w g (off + i * 32) ((F.drop (32 * i)).take 32) := by
  have hl : ((F.drop (32 * i)).take 32).length = 32 := by rw [List.length_take, List.length_drop]; omega
  refine ⟨hl, fun j v hv => ?_, hg⟩
  have hj : j < 32 := by
    have := (List.getElem?_eq_some_iff.1 hv).1
    rwa [Array.length_toList, B8_size, hl] at this
  rw [Array.getElem?_toList, B8_get _ j (by omega)] at hv
  rw [← hv]
  have := h (32 * i + j) (by omega)
  rw [show off + i * 32 + j = off + (32 * i + j) by omega, this]
  simp only [List.getD_eq_getElem?_getD]
  rw [List.getElem?_take_of_lt (by omega), List.getElem?_drop]
theorem wpQuiet_load26 {w : World} {ops : Array Oper} {rest : List Oper} {o : Oper} {a : Act} {Q : Act → Prop} (hw : Region.wanted o (yielded ops a.tmps) = true) (x : Operand) (ho : o.op = .load 26 x) (b off : Nat) (hx : a.eval x = .pointer (some ⟨b, off, none⟩))
    (l : List UInt8) (hl : HashAt w b off l)
    (h : wpQuiet Tryd.prog ops (fun w' => ∃ p : Regrown, w' = grow (redrawn w p.d) p.os) Q rest (a.put o.dst (.agg (B8 l)))) : wpQuiet Tryd.prog ops (fun w' => ∃ p : Regrown, w' = grow (redrawn w p.d) p.os) Q (o :: rest) a := by
  unfold wpQuiet
  rw [if_pos hw]
  refine ⟨.agg (B8 l), fun w' ⟨p, e⟩ => ?_, h⟩
  have hr := (hl.below (below_regrown w p.d p.os) hl.2.2).2.1
  rw [← e] at hr
  unfold Oper.quietAt execOp
  have hrun := run_loadVar_mid (P := Tryd.prog) w' b off 26 (B8 l).toList _ hr Tryd.underlying26 rfl (by rw [Array.length_toList, B8_size, hl.1]; exact info27)
  simp only [ho, hx, Instr.loadAt, Instr.sureAddr, Sem.run_bind, Sem.run_pure, Result.andThen_ok, hrun]
  exact ⟨rfl, by simp⟩
set_option maxRecDepth 100000 in
set_option maxHeartbeats 1000000 in
theorem samehashes_any (F : List UInt8) (m : Nat) (hF : F.length = 32 * m) (hm9 : m ≤ 1000) (v1 v2 : Option Addr) (c1 c2 : Nat) (w : World) (h1 : 0 < m → ∃ g off, v1 = some ⟨g, off, none⟩ ∧ g < w.heap.size ∧ Src w g off F) (h2 : 0 < m → ∃ g off, v2 = some ⟨g, off, none⟩ ∧ g < w.heap.size ∧ Src w g off F) :
    Calls Tryd.prog 19 #[.slice v1 m c1, .slice v2 m c2] w fun e w' => e = .returned (.bool true) ∧ Below w.heap.size w w' := by
  have HS1 := Lib.hid h1
  have HS2 := Lib.hid h2
  have HF := Lib.hid hF
  have m4 : ((m : Int) != (m : Int)) = false := by simp
  clear h1 h2 hF
  go_enter Tryd.func19, Tryd.ntmps19
  go_wp2_with fail
  go_loopw [5] (fun i wr => ∃ k : Nat, k ≤ m ∧ i = .int .i64 k ∧ Below w.heap.size w wr) (fun i _ => m - (intOf i).toNat)
  case atStart => exact ⟨0, by omega, rfl, Below.refl _ _⟩
  case round =>
    obtain ⟨k, hk, rfl, hb⟩ := hrel
    have HB := Lib.hid hb
    clear hb
    by_cases hlt : k < m
    · have i1 : (k : Int) < (m : Int) := by omega
      have f0 : (0 : Int) ≤ (k : Int) := by omega
      obtain ⟨g1, off1, rfl, hg1, hs1⟩ := HS1.out (by omega)
      obtain ⟨g2, off2, rfl, hg2, hs2⟩ := HS2.out (by omega)
      have hx1 := (hash_src hs1 hg1 k (by rw [HF.out]; omega)).below HB.out hg1
      have hx2 := (hash_src hs2 hg2 k (by rw [HF.out]; omega)).below HB.out hg2
      generalize (F.drop (32 * k)).take 32 = X at hx1 hx2
      have heq := equal_same X hx1.1
      have hgu := guard26
      have X1 := Lib.hid hx1
      have X2 := Lib.hid hx2
      clear hs1 hs2 hx1 hx2 hg1 hg2
      go_wp2_with fail
      refine wp_region_quiet_below (by kernel_rfl) (by kernel_rfl) ?_
      iterate 3 (first | go_big_quiet_step (fail) | quiet_step (fail))
      refine wpQuiet_load26 (by rfl) _ rfl g1 (off1 + k * 32) rfl X X1.out ?_
      iterate 3 (first | go_big_quiet_step (fail) | quiet_step (fail))
      refine wpQuiet_load26 (by rfl) _ rfl g2 (off2 + k * 32) rfl X X2.out ?_
      iterate 1 (first | go_big_quiet_step (fail) | quiet_step (fail))
      refine wpQuiet_nil ?_
      rintro w5 ⟨p, hw5⟩
      have HB5 : Hid (Below w.heap.size w w5) := Lib.hid (by rw [hw5]; exact HB.out.trans ((below_regrown wr p.d p.os).mono HB.out.size))
      clear hw5 X1 X2 heq
      go_wp2_with fail
      refine ⟨⟨k + 1, by omega, by go_num, HB5.out⟩, ?_⟩
      simp [intOf]; omega
    · have hd : decide (k < m) = false := by simp; omega
      have i1 : ¬ (k : Int) < (m : Int) := by omega
      go_wp2_with fail
      go_ret
      exact ⟨rfl, HB.out⟩
end Go.Proofs.YtgempifedhiknaaDoor
