/-
  The digits of a message, as the law reckons them (17).
-/
import Derived.Test.YtgempifedhiknaaDoorWaw
import Derived.Test.YtgempifedhiknaaDoorWbm
import Derived.Maps.AppendAt
import Derived.Deep.QuietTactic
import Derived.BigQuiet
import Derived.Outline
namespace Go.Proofs.YtgempifedhiknaaDoor
open Go.RowKit Go.Shelf Sha

/-- Numbers in a slice of the call's own. -/
def RowI (w0 : World) (vs : List Value) (v : Value) (w : World) : Prop := w.ownsRow w0.heap.size 3 1 v vs.length vs ∧ Below w0.heap.size w0 w
theorem info3 : (Tryd.prog.info? 3).map (fun i => (i.zero, i.size, i.bytes)) = some (some (.int .i64 0), 1, 8) := by kernel_rfl
theorem wpList_pushI {w0 w : World} {ops : Array Oper} {rest : List Oper} {o : Oper} {a : Act} {Q : Exit → Act → World → Prop} (hgd : o.guard = none) (sx x : Operand)
    (ho : o.op = .call { callee := .builtin .append, args := #[sx, x], argTypes := #[39, 39] }) (vs us : List Value) (v : Value) (n : Nat) (hn : us.length = n) (h1 : ∀ u, u ∈ us → u.oneCell' = true)
    (hs : a.eval sx = v) (hx : a.eval x = .slice (some ⟨w.heap.size, 0, none⟩) n n) (hl : vs.length + n ≤ 2000000) (h : RowI w0 vs v w)
    (k : ∀ v' w', Hid (RowI w0 (vs ++ us) v' w') → wpList Tryd.prog ops Q rest (a.put o.dst v') w') : wpList Tryd.prog ops Q (o :: rest) a (w.alloc (.cells us.toArray 3)) := by
  obtain ⟨i0, hi0, hz0, hz1, hz2⟩ := info_parts info3
  refine wpList_append_own _ hgd sx x 39 ho w0.heap.size 3 i0 (.int .i64 0) 1 8 Tryd.underlying39 hi0 hz0 hz1 hz2 rfl (by decide) v vs.length vs hs (h.1.alloc _) ⟨w.heap.size, 0, none⟩ n n us hx (by rw [hn]; omega) ?_ h1 (by unfold maxLen; omega) (by omega) (by have := h.2.size; simp; omega) ?_
  · exact World.news_of_block (cs := us.toArray) (t := 3) (fr := (0, 0)) (heap_alloc_new w _)
  · intro v' w' hown hgrow _
    refine k v' w' (Lib.hid ⟨?_, ?_⟩)
    · rw [List.length_append, hn]; exact hown
    · exact (h.2.alloc h.2.size _).grown hgrow (by have := h.2.size; simp; omega) (fun j e => (h.1.lt j e).1)
/-- The first n digits, as values. -/
def wvals (m : List UInt8) (n : Nat) : List Value := (List.range n).map fun i => .int .i64 (wdig m i)
theorem wvals_length (m : List UInt8) (n : Nat) : (wvals m n).length = n := by simp [wvals]
theorem wvals_two (m : List UInt8) (j : Nat) (a b : Int) (ha : a = wdig m (2 * j)) (hb : b = wdig m (2 * j + 1)) : wvals m (2 * j) ++ [.int .i64 a, .int .i64 b] = wvals m (2 * (j + 1)) := by
  subst ha hb
  have e : 2 * (j + 1) = 2 * j + 1 + 1 := by omega
  unfold wvals
  rw [e, List.range_succ, List.range_succ]
  simp
/-- All digits, as values. -/
def dvals (m : List UInt8) : List Value := (List.range 35).map fun i => .int .i64 (digit m i)
theorem dvals_all (m : List UInt8) (a b c : Int) (ha : a = digit m 32) (hb : b = digit m 33) (hc : c = digit m 34) : wvals m 32 ++ [.int .i64 a, .int .i64 b, .int .i64 c] = dvals m := by
  subst ha hb hc
  have e : (List.range 35) = List.range 32 ++ [32, 33, 34] := by decide
  unfold dvals wvals
  rw [e, List.map_append]
  congr 1
/-- Numbers stand in a block. -/
def Ints (w : World) (g : Nat) (f : Nat → Nat) : Prop := g < w.heap.size ∧ ∀ i, i < 35 → w.cell? ⟨g, i, none⟩ = some (.int .i64 (f i))
theorem Ints.below {B : Nat} {w w' : World} {g : Nat} {f : Nat → Nat} (h : Ints w g f) (hb : Below B w w') (hg : g < B) : Ints w' g f :=
  ⟨Nat.lt_of_lt_of_le h.1 hb.size, fun i hi => (hb.cell (p := ⟨g, i, none⟩) hg).trans (h.2 i hi)⟩
/-- What a message's digits are told as. -/
def DigV (m : List UInt8) (v : Value) (w : World) : Prop := ∃ g c, v = .slice (some ⟨g, 0, none⟩) 35 c ∧ 35 ≤ c ∧ Ints w g (digit m)
theorem RowI.dig {w0 w : World} {m : List UInt8} {v : Value} (h : RowI w0 (dvals m) v w) : DigV m v w := by
  have hl : (dvals m).length = 35 := by simp [dvals]
  rcases h.1.2 with ⟨_, h0⟩ | ⟨g, cap, cur, e, hb, hg, h1, h2⟩
  · rw [h0] at hl; cases hl
  · refine ⟨g, cap, by rw [e, hl], by omega, (Array.getElem?_eq_some_iff.1 hg).1, fun i hi => ?_⟩
    have := h.1.cells (g := g) (by rw [e]; rfl) i (.int .i64 (digit m i)) (by simp [dvals, List.getElem?_range hi])
    rwa [Addr.add_mid, Nat.zero_add] at this
theorem wd_even (m : List UInt8) (j : Nat) : wdig m (2 * j) = (m.getD j 0).toNat / 16 := by
  unfold wdig; rw [if_pos (by omega), show 2 * j / 2 = j by omega]
theorem wd_odd (m : List UInt8) (j : Nat) : wdig m (2 * j + 1) = (m.getD j 0).toNat % 16 := by
  unfold wdig; rw [if_neg (by omega), show (2 * j + 1) / 2 = j by omega]
/-- What is left of 480. -/
def restD (m : List UInt8) (j : Nat) : Nat := leftD m (2 * j) + 15 * (32 - 2 * j)
theorem restD_le (m : List UInt8) (j : Nat) (h : j ≤ 16) : restD m j ≤ 480 := by
  unfold restD; have := leftD_le m (2 * j); omega
theorem restD_succ (m : List UInt8) (j : Nat) (h : j < 16) : restD m (j + 1) + wdig m (2 * j) + wdig m (2 * j + 1) = restD m j := by
  unfold restD
  have h1 := wdig_lt m (2 * j)
  have h2 := wdig_lt m (2 * j + 1)
  rw [show 2 * (j + 1) = 2 * j + 1 + 1 by omega]
  simp only [leftD]
  omega
set_option maxRecDepth 100000 in
set_option maxHeartbeats 1000000 in
theorem dig_any (m : List UInt8) (hm : m.length = 32) (w : World) : Calls Tryd.prog 17 #[.agg (B8 m)] w fun e w' => ∃ v, e = .returned v ∧ DigV m v w' ∧ Below w.heap.size w w' := by
  have HM := Lib.hid hm
  go_enter Tryd.func17, Tryd.ntmps17
  go_wp2_with fail
  have hA : Lies (w.alloc (.cells (B8 m) 26)) w.heap.size (B8 m) 26 := Lies.new _ _ _
  have hb0 : Below w.heap.size w (w.alloc (.cells (B8 m) 26)) := (Below.refl _ _).alloc (Nat.le_refl _) _
  have HST := Lib.hid (And.intro hb0 hA)
  clear hb0 hA hm
  generalize w.alloc (.cells (B8 m) 26) = W0 at HST ⊢
  go_loopw [3, 4, 5] (fun v s i W => ∃ j : Nat, j ≤ 16 ∧ i = .int .i64 j ∧ s = .int .i64 (restD m j) ∧ RowI W0 (wvals m (2 * j)) v W) (fun _ _ i _ => 16 - (intOf i).toNat)
  case atStart => exact ⟨0, by omega, rfl, rfl, World.ownsRow_nil _ _ _ _, Below.refl _ _⟩
  case round =>
    obtain ⟨j, hj, rfl, rfl, h1⟩ := hrel
    have h2 := HST.out.2.below h1.2 HST.out.2.lt
    by_cases hlt : j < 16
    · have m1 : (j : Int) < 16 := by omega
      have m0 : (0 : Int) ≤ (j : Int) := by omega
      have m2 : (j : Int) < 32 := by omega
      obtain ⟨x, hx⟩ : ∃ x, x = (m.getD j 0).toNat := ⟨_, rfl⟩
      have c1 : wr.cell? ⟨w.heap.size, j, none⟩ = some (.int .u8 x) := by
        rw [hx]
        exact h2.cell j (B8_get m j (by have := HM.out; omega))
      have hx8 : x < 256 := by rw [hx]; exact UInt8.toNat_lt _
      have hn : (bits .and .u8 (x : Int) 15) = ((x % 16 : Nat) : Int) := and15_u8 x hx8
      obtain ⟨s, hs⟩ : ∃ s, s = restD m j := ⟨_, rfl⟩
      rw [← hs]
      obtain ⟨q, hq⟩ : ∃ q, q = x / 16 := ⟨_, rfl⟩
      obtain ⟨r, hr⟩ : ∃ r, r = x % 16 := ⟨_, rfl⟩
      rw [← hr] at hn
      have eq : (x : Int) / 16 = (q : Int) := by omega
      have HR := Lib.hid (And.intro hlt (And.intro hx (And.intro hs (And.intro hq (And.intro hr h1)))))
      have m3 : (q : Int) < 16 := by omega
      have m4 : (r : Int) < 16 := by omega
      have HB := Lib.hid (restD_le m j (by omega))
      clear h1 h2 hs hx hq hr hlt hj hx8
      go_upto_region 6 with fail
      go_quiet (fail)
      clear c1 hn eq m2 m3 m4
      have h1 : RowI W0 (wvals m (2 * j)) u3 (wr.drewN nq) := ⟨HR.out.2.2.2.2.2.1, ⟨HR.out.2.2.2.2.2.2.os, HR.out.2.2.2.2.2.2.tape, HR.out.2.2.2.2.2.2.output, HR.out.2.2.2.2.2.2.size, HR.out.2.2.2.2.2.2.block⟩⟩
      have H1 := Lib.hid h1
      clear h1
      generalize wr.drewN nq = W1 at H1 ⊢
      have hlen := wvals_length m (2 * j)
      have HLN := Lib.hid hlen
      clear hlen
      go_wp2_with (at_builtin; go_must (refine wpList_pushI rfl _ _ rfl (wvals m (2 * j)) [.int .i64 q, .int .i64 r] _ 2 rfl (by intro u hu; simp at hu; rcases hu with rfl | rfl <;> rfl) rfl rfl (by rw [HLN.out]; have := HR.out.1; omega) H1.out ?_); intro v7 w7 HQ7)
      have hq := HQ7.out
      rw [wvals_two m j q r (by rw [wd_even, HR.out.2.2.2.1, HR.out.2.1]) (by rw [wd_odd, HR.out.2.2.2.2.1, HR.out.2.1])] at hq
      refine ⟨⟨j + 1, by have := HR.out.1; omega, by go_num, ?_, hq⟩, ?_⟩
      · have h5 := restD_succ m j HR.out.1
        rw [wd_even, wd_odd, ← HR.out.2.1, ← HR.out.2.2.2.1, ← HR.out.2.2.2.2.1, ← HR.out.2.2.1] at h5
        have h6 := HB.out
        rw [← HR.out.2.2.1] at h6
        refine congrArg (Value.int .i64) ?_
        have e1 : wrap64 ((s : Int) - (q : Int)) = (s : Int) - (q : Int) := by unfold wrap64; omega
        rw [e1]
        unfold wrap64; omega
      · have := HR.out.1
        simp [intOf]; omega
    · have hj2 : j = 16 := by omega
      subst hj2
      have e16 : restD m 16 = leftD m 32 := by simp [restD]
      rw [e16]
      obtain ⟨L, hL⟩ : ∃ L, L = leftD m 32 := ⟨_, rfl⟩
      rw [← hL]
      have hL2 : L ≤ 480 := by rw [hL]; exact leftD_le m 32
      obtain ⟨p, hp⟩ : ∃ p, p = L / 16 := ⟨_, rfl⟩
      have hn1 := and15_i64 p (by omega)
      have hn2 := and15_i64 L hL2
      obtain ⟨d2, hd2⟩ : ∃ d2, d2 = p % 16 := ⟨_, rfl⟩
      obtain ⟨d3, hd3⟩ : ∃ d3, d3 = L % 16 := ⟨_, rfl⟩
      obtain ⟨d1, hd1⟩ : ∃ d1, d1 = L / 256 := ⟨_, rfl⟩
      rw [← hd2] at hn1
      rw [← hd3] at hn2
      have ep : (L : Int) / 16 = (p : Int) := by omega
      have ed : (L : Int) / 256 = (d1 : Int) := by omega
      have f1 : d1 = digit m 32 := by rw [digit_a, ← hL, hd1]
      have f2 : d2 = digit m 33 := by rw [digit_b, ← hL, hd2, hp]
      have f3 : d3 = digit m 34 := by rw [digit_c, ← hL, hd3]
      have HF := Lib.hid (And.intro f1 (And.intro f2 f3))
      have H1 := Lib.hid h1
      have m1 : (L : Int) ≤ 480 := by omega
      clear h1 h2 hL hL2 hp hd1 hd2 hd3 f1 f2 f3 e16 hj hlt
      have hlen := wvals_length m 32
      have HLN := Lib.hid hlen
      clear hlen
      go_wp2_with (at_builtin; go_must (refine wpList_pushI rfl _ _ rfl (wvals m 32) [.int .i64 d1, .int .i64 d2, .int .i64 d3] _ 3 rfl (by intro u hu; simp at hu; rcases hu with rfl | rfl | rfl <;> rfl) rfl rfl (by rw [HLN.out]; omega) H1.out ?_); intro v7 w7 HQ7)
      have hq := HQ7.out
      rw [dvals_all m d1 d2 d3 (by rw [HF.out.1]) (by rw [HF.out.2.1]) (by rw [HF.out.2.2])] at hq
      go_ret
      exact ⟨_, rfl, hq.dig, HST.out.1.trans (hq.2.mono HST.out.1.size)⟩
end Go.Proofs.YtgempifedhiknaaDoor
