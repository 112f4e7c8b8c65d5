/-
  The sum of numbers of 128 bits.
-/
import Derived.Test.YtjngghihciimjaaVs
import Derived.Test.YtjngghihciimjaaVa
import Derived.Laws.Externs
namespace Go.Proofs.Ytjngghihciimjaa
set_option maxRecDepth 100000
open Go.RowKit Go.Sort

theorem add64_run (x y : Int) (hx : 0 ≤ x) (hy : 0 ≤ y) (w : World) : (callFunc 35 #[.int .u64 x, .int .u64 y, .int .u64 0]).run Try.prog w =
    .ok (.value (.tuple #[.int .u64 ((x + y) % 18446744073709551616), .int .u64 ((x + y) / 18446744073709551616)])) w := by
  rw [run_callFunc_extern Try.func35 (by kernel_rfl) (by kernel_rfl) (by kernel_rfl) (e := add64Entry) (by kernel_rfl), run_add64 x y 0 hx hy (by decide) (by decide)]
  simp only [Int.add_zero]
  rfl
/-- A number of 128 bits, in cells. -/
def wC (x : BitVec 128) : Array Value := #[.int .i64 (hiS x), .int .u64 (loN x)]
theorem wC_one (x : BitVec 128) : (wC x).all (·.oneCell') = true := by simp [wC, Value.oneCell']
theorem wC_zero : wC 0 = #[.int .i64 0, .int .u64 0] := by kernel_rfl
theorem wv_wC (x : BitVec 128) : wv x = .agg (wC x) := rfl
/-- Such numbers lie one behind the other. -/
def HasW (w : World) (g off : Nat) (l : List (BitVec 128)) : Prop := ∀ (i : Nat) (x : BitVec 128), l[i]? = some x → w.rangeAt g (off + i * 2) (wC x).toList
theorem HasW.below {B : Nat} {w w' : World} {g off : Nat} {l : List (BitVec 128)} (h : HasW w g off l) (hb : Below B w w') (hg : g < B) : HasW w' g off l :=
  fun i a hi j v hv => (hb.cell (p := ⟨g, off + i * 2 + j, none⟩) hg).trans (h i a hi j v hv)
def sumL (l : List (BitVec 128)) : BitVec 128 := l.foldl (· + ·) 0
theorem sumL_take {l : List (BitVec 128)} {k : Nat} {x : BitVec 128} (h : l[k]? = some x) : sumL (l.take (k + 1)) = sumL (l.take k) + x := by
  unfold sumL
  rw [List.take_add_one, h, List.foldl_append]
  rfl
set_option maxHeartbeats 4000000 in
theorem plus_any (w : World) (g off c : Nat) (l : List (BitVec 128)) (hl : l.length ≤ maxLen) (hg : g < w.heap.size) (hs : HasW w g off l) :
    Calls Try.prog 14 #[.slice (some ⟨g, off, none⟩) l.length c] w fun e w' => e = .returned (wv (sumL l)) ∧ Below w.heap.size w w' := by
  have hli : (l.length : Int) ≤ 9223372036854775807 := by unfold maxLen at hl; omega
  have H := Lib.hid (And.intro hg hs)
  clear hl hg hs
  go_enter Try.func14, Try.ntmps14
  go_upto_region 3 with fail
  have hL1 : Lies ((w.alloc (.cells #[.int .i64 0, .int .u64 0] 39)).alloc (.cells #[.int .i64 0, .int .u64 0] 39)) w.heap.size #[.int .i64 0, .int .u64 0] 39 := (Lies.new _ _ _).alloc _
  have hL2 : Lies ((w.alloc (.cells #[.int .i64 0, .int .u64 0] 39)).alloc (.cells #[.int .i64 0, .int .u64 0] 39)) (w.heap.size + 1) (wC (sumL (l.take 0))) 39 := by
    have := Lies.new (w.alloc (.cells #[.int .i64 0, .int .u64 0] 39)) #[.int .i64 0, .int .u64 0] 39
    rw [show wC (sumL (l.take 0)) = #[.int .i64 0, .int .u64 0] from wC_zero]
    simpa using this
  have hb1 : Below w.heap.size w ((w.alloc (.cells #[.int .i64 0, .int .u64 0] 39)).alloc (.cells #[.int .i64 0, .int .u64 0] 39)) := ((Below.refl _ _).alloc (Nat.le_refl _) _).alloc (by simp) _
  generalize (w.alloc (.cells #[.int .i64 0, .int .u64 0] 39)).alloc (.cells #[.int .i64 0, .int .u64 0] 39) = W1 at hL1 hL2 hb1 ⊢
  go_loopw [10] (fun i W => ∃ k : Nat, k ≤ l.length ∧ i = .int .i64 k ∧ Below w.heap.size w W ∧ Lies W w.heap.size #[.int .i64 0, .int .u64 0] 39 ∧ Lies W (w.heap.size + 1) (wC (sumL (l.take k))) 39) (fun i _ => l.length - (intOf i).toNat)
  case atStart => exact ⟨0, Nat.zero_le _, rfl, hb1, hL1, hL2⟩
  case round =>
    clear hL1 hL2 hb1
    obtain ⟨k, hk, rfl, hb, z1, z2⟩ := hrel
    by_cases hlt : k < l.length
    · have m1 : (k : Int) < (l.length : Int) := by omega
      have m0 : (0 : Int) ≤ (k : Int) := by omega
      obtain ⟨x, hx⟩ : ∃ x, x = l[k] := ⟨_, rfl⟩
      have hkx : l[k]? = some x := by rw [hx, List.getElem?_eq_getElem hlt]
      have hrg := (H.out.2.below hb H.out.1) k x hkx
      obtain ⟨s, hs⟩ : ∃ s, s = sumL (l.take k) := ⟨_, rfl⟩
      have hnext : sumL (l.take (k + 1)) = s + x := by rw [hs]; exact sumL_take hkx
      rw [← hs] at z2
      obtain ⟨vx, hvx⟩ : ∃ v, v = wC x := ⟨_, rfl⟩
      have hvs : vx.size = 2 := by rw [hvx]; rfl
      rw [← hvx] at hrg
      have HRG := Lib.hid hrg
      have HR := Lib.hid (And.intro hb (And.intro z1 (And.intro z2 (And.intro hlt (And.intro hnext (And.intro hvs hvx))))))
      clear hb z1 z2 hlt hk hx hkx hrg hs hnext hvx hvs
      go_upto_region 5 with (first
        | (refine wpList_load_mid rfl 39 _ rfl g (off + k * 2) rfl vx.toList _ HRG.out Try.underlying39 rfl (by rw [Array.length_toList, HR.out.2.2.2.2.2.1]; exact info_wide) ?_)
        | (refine wpList_store_row rfl 39 _ _ rfl wr.heap.size vx rfl rfl 39 #[.int .i64 0, .int .u64 0] (Lies.new wr _ 39) (by rw [HR.out.2.2.2.2.2.1]; exact info_wide) HR.out.2.2.2.2.2.1.symm (by rw [HR.out.2.2.2.2.2.2]; exact wC_one x) ?_))
      rw [World.setRow_alloc_new]
      have hL5 : Lies (wr.alloc (.cells vx 39)) wr.heap.size (wC x) 39 := by rw [HR.out.2.2.2.2.2.2]; exact Lies.new _ _ _
      have hL6 : Lies (wr.alloc (.cells vx 39)) (w.heap.size + 1) (wC s) 39 := HR.out.2.2.1.alloc _
      have hL7 : Lies (wr.alloc (.cells vx 39)) w.heap.size #[.int .i64 0, .int .u64 0] 39 := HR.out.2.1.alloc _
      have hb5 : Below w.heap.size w (wr.alloc (.cells vx 39)) := HR.out.1.alloc HR.out.1.size _
      have hne : w.heap.size + 1 ≠ wr.heap.size := by have := HR.out.2.2.1.lt; omega
      generalize wr.alloc (.cells vx 39) = W5 at hL5 hL6 hL7 hb5 ⊢
      have ch := hL6.cell 0 (v := .int .i64 (hiS s)) rfl
      have cl := hL6.cell 1 (v := .int .u64 (loN s)) rfl
      have dh := hL5.cell 0 (v := .int .i64 (hiS x)) rfl
      have dl := hL5.cell 1 (v := .int .u64 (loN x)) rfl
      have HL := Lib.hid (And.intro (loN_lt s) (And.intro (loN_lt x) (And.intro (hi_add s x) (lo_add s x))))
      have H5 := Lib.hid (And.intro hL5 (And.intro hL6 (And.intro hL7 (And.intro hb5 hne))))
      clear hL5 hL6 hL7 hb5 hne
      have hadd := fun W => add64_run (loN s : Int) (loN x : Int) (by omega) (by omega) W
      go_upto_region 6 with fail
      clear hadd
      go_upto_region 7 with (refine wpList_store_row rfl 39 _ _ rfl (w.heap.size + 1) _ rfl rfl 39 (wC s) H5.out.2.1 info_wide rfl (by simp [Value.oneCell']) ?_)
      have e1 : wrap64 (wrap64 (hiS s + hiS x) + wrap64 (((loN s : Int) + (loN x : Int)) / 18446744073709551616)) = hiS (s + x) := by
        rw [HL.out.2.2.1]
        have h1 := HL.out.1
        have h2 := HL.out.2.1
        simp only [IntKind.wrap_i64]
        unfold wrap64
        omega
      have e2 : ((loN s : Int) + (loN x : Int)) % 18446744073709551616 = (loN (s + x) : Int) := by
        rw [HL.out.2.2.2]
        omega
      rw [e1, e2]
      have hz : Lies (W5.setRow (w.heap.size + 1) (wC (s + x))) (w.heap.size + 1) (wC (sumL (l.take (k + 1)))) 39 := by rw [HR.out.2.2.2.2.1]; exact H5.out.2.1.setRow _
      have hz1 : Lies (W5.setRow (w.heap.size + 1) (wC (s + x))) w.heap.size #[.int .i64 0, .int .u64 0] 39 := H5.out.2.2.1.setRowOther _ _ (by omega)
      have hzb : Below w.heap.size w (W5.setRow (w.heap.size + 1) (wC (s + x))) := below_setRow H5.out.2.2.2.1 _ _ (by omega)
      have HZ := Lib.hid (And.intro hzb (And.intro hz1 hz))
      clear hz hz1 hzb ch cl dh dl e1 e2
      change Code.wp _ _ _ _ (W5.setRow (w.heap.size + 1) (wC (s + x)))
      generalize W5.setRow (w.heap.size + 1) (wC (s + x)) = W7 at HZ ⊢
      go_wp2_with fail
      have e1 : (k : Int) + 1 = ((k + 1 : Nat) : Int) := by omega
      rw [e1]
      refine ⟨⟨k + 1, HR.out.2.2.2.1, rfl, HZ.out⟩, ?_⟩
      have h := HR.out.2.2.2.1
      show l.length - (k + 1) < l.length - k
      omega
    · have e1 : k = l.length := by omega
      have m1 : ¬ (k : Int) < (l.length : Int) := by omega
      rw [e1, List.take_length] at z2
      have HF := Lib.hid (And.intro hb (And.intro z1 z2))
      have c0 := z2.cell 0 (v := .int .i64 (hiS (sumL l))) rfl
      have c1 := z2.cell 1 (v := .int .u64 (loN (sumL l))) rfl
      clear hb z1 z2 hk hlt e1
      go_wp2_with (refine wpList_store_row rfl 39 _ _ rfl w.heap.size (wC (sumL l)) rfl rfl 39 #[.int .i64 0, .int .u64 0] HF.out.2.1 info_wide rfl (wC_one _) ?_)
      refine bodyPost_ret (v := wv (sumL l)) (results_cell_row (p := 2) (ty := 39) (by kernel_rfl) _ _ w.heap.size 39 (wC (sumL l)) (0, 0) _ rfl (HF.out.2.1.setRow _) Try.underlying39 rfl info_wide) rfl ⟨rfl, below_setRow HF.out.1 _ _ (Nat.le_refl _)⟩
end Go.Proofs.Ytjngghihciimjaa
