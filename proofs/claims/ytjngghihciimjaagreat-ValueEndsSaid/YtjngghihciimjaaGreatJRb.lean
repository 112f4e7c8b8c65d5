/-
  The document's own wide numbers: of a number, sums.
-/
import Derived.Test.YtjngghihciimjaaGreatJRa
import Derived.Test.YtjngghihciimjaaGreatJVt
import Derived.Test.YtjngghihciimjaaGreatJVsu
import Derived.StillTailTactics
namespace Go.Proofs.YtjngghihciimjaaGreat
set_option maxRecDepth 100000
open Go.RowKit Go.Sort
theorem wide_halves (n : Int) (h0 : -9223372036854775808 ≤ n) (h1 : n < 9223372036854775808) : hiS (wide n) = (if n < 0 then -1 else 0) ∧ (loN (wide n) : Int) = n % 18446744073709551616 := by
 rw [hi_wide n h0 h1, lo_wide n]
 refine ⟨?_, rfl⟩
 split <;> omega
set_option maxHeartbeats 1000000 in
theorem rwide_any (w : World) (n : Int) (h0 : -9223372036854775808 ≤ n) (h1 : n < 9223372036854775808) :
  Calls Tryz.prog 40 #[.int .i64 n] w fun e w' => e = .returned (wv (wide n)) ∧ Below w.heap.size w w' := by
 obtain ⟨e1, e2⟩ := wide_halves n h0 h1
 have hu : IntKind.u64.wrap n = (loN (wide n) : Int) := by rw [e2]; rfl
 have hret : wv (wide n) = .agg #[.int .i64 (if n < 0 then -1 else 0), .int .u64 (loN (wide n))] := by
  show Value.agg #[.int .i64 (hiS (wide n)), .int .u64 (loN (wide n))] = _
  rw [e1]
 rw [hret]
 generalize loN (wide n) = m at hu ⊢
 clear e1 e2 hret
 have hb : Below w.heap.size w (w.alloc (.cells #[.int .i64 0, .int .u64 0] 48)) := (Below.refl _ _).alloc (Nat.le_refl _) _
 have hL : Lies (w.alloc (.cells #[.int .i64 0, .int .u64 0] 48)) w.heap.size #[.int .i64 0, .int .u64 0] 48 := Lies.new _ _ _
 have H := Lib.hid (And.intro hb hL)
 clear hb hL
 by_cases hn : n < 0
 ·
  rw [if_pos hn]
  have H2 := Lib.hid (And.intro h0 h1)
  clear h0 h1
  go_enter Tryz.func40, Tryz.ntmps40
  go_wp2_with (refine wpList_store_row rfl 48 _ _ rfl w.heap.size #[.int .i64 (-1), .int .u64 m] rfl rfl 48 #[.int .i64 0, .int .u64 0] H.out.2 info_wide rfl (by simp [Value.oneCell']) ?_)
  refine bodyPost_ret (v := .agg #[.int .i64 (-1), .int .u64 m]) (results_cell_row (p := 2) (ty := 48) (by kernel_rfl) _ _ w.heap.size 48 #[.int .i64 (-1), .int .u64 m] (0, 0) _ rfl (H.out.2.setRow _) Tryz.underlying48 rfl info_wide) rfl ⟨rfl, below_setRow H.out.1 _ _ (Nat.le_refl _)⟩
 ·
  rw [if_neg hn]
  have H2 := Lib.hid (And.intro h0 h1)
  clear h0 h1
  go_enter Tryz.func40, Tryz.ntmps40
  go_wp2_with (refine wpList_store_row rfl 48 _ _ rfl w.heap.size #[.int .i64 0, .int .u64 m] rfl rfl 48 #[.int .i64 0, .int .u64 0] H.out.2 info_wide rfl (by simp [Value.oneCell']) ?_)
  refine bodyPost_ret (v := .agg #[.int .i64 0, .int .u64 m]) (results_cell_row (p := 2) (ty := 48) (by kernel_rfl) _ _ w.heap.size 48 #[.int .i64 0, .int .u64 m] (0, 0) _ rfl (H.out.2.setRow _) Tryz.underlying48 rfl info_wide) rfl ⟨rfl, below_setRow H.out.1 _ _ (Nat.le_refl _)⟩
def RowW (w : World) (pa : Option Addr) (l : List (BitVec 128)) : Prop := l.length ≤ maxLen ∧ (0 < l.length → ∃ g off, pa = some ⟨g, off, none⟩ ∧ g < w.heap.size ∧ HasW w g off l)
set_option maxHeartbeats 4000000 in
theorem rplus_any (w : World) (pa : Option Addr) (c : Nat) (l : List (BitVec 128)) (h : RowW w pa l) :
  Calls Tryz.prog 38 #[.slice pa l.length c] w fun e w' => e = .returned (wv (sumL l)) ∧ Below w.heap.size w w' := by
 have hli : (l.length : Int) ≤ 9223372036854775807 := by have := h.1; unfold maxLen at this; omega
 have H := Lib.hid h
 clear h
 go_enter Tryz.func38, Tryz.ntmps38
 go_upto_region 2 with fail
 have hL1 : Lies ((w.alloc (.cells #[.int .i64 0, .int .u64 0] 48)).alloc (.cells #[.int .i64 0, .int .u64 0] 48)) w.heap.size #[.int .i64 0, .int .u64 0] 48 := (Lies.new _ _ _).alloc _
 have hL2 : Lies ((w.alloc (.cells #[.int .i64 0, .int .u64 0] 48)).alloc (.cells #[.int .i64 0, .int .u64 0] 48)) (w.heap.size + 1) #[.int .i64 (hiS (sumL (l.take 0))), .int .u64 (loN (sumL (l.take 0)))] 48 := by
  have := Lies.new (w.alloc (.cells #[.int .i64 0, .int .u64 0] 48)) #[.int .i64 0, .int .u64 0] 48
  rw [show (#[.int .i64 (hiS (sumL (l.take 0))), .int .u64 (loN (sumL (l.take 0)))] : Array Value) = #[.int .i64 0, .int .u64 0] from wC_zero]
  simpa using this
 have hb1 : Below w.heap.size w ((w.alloc (.cells #[.int .i64 0, .int .u64 0] 48)).alloc (.cells #[.int .i64 0, .int .u64 0] 48)) := ((Below.refl _ _).alloc (Nat.le_refl _) _).alloc (by simp) _
 generalize (w.alloc (.cells #[.int .i64 0, .int .u64 0] 48)).alloc (.cells #[.int .i64 0, .int .u64 0] 48) = W1 at hL1 hL2 hb1 ⊢
 have H1 := Lib.hid (And.intro hb1 (And.intro hL1 hL2))
 clear hb1 hL1 hL2
 go_wp2_with fail
 go_loopw [4] (fun i W => ∃ k : Nat, k ≤ l.length ∧ i = .int .i64 k ∧ Below w.heap.size w W ∧ Lies W w.heap.size #[.int .i64 0, .int .u64 0] 48 ∧ Lies W (w.heap.size + 1) #[.int .i64 (hiS (sumL (l.take k))), .int .u64 (loN (sumL (l.take k)))] 48) (fun i _ => l.length - (intOf i).toNat)
 case atStart => exact ⟨0, Nat.zero_le _, rfl, H1.out⟩
 case round =>
  obtain ⟨k, hk, rfl, hb, z1, z2⟩ := hrel
  by_cases hlt : k < l.length
  ·
   have m1 : (k : Int) < (l.length : Int) := by omega
   have m0 : (0 : Int) ≤ (k : Int) := by omega
   obtain ⟨g, off, rfl, hg, hh⟩ := H.out.2 (by omega)
   obtain ⟨x, hx⟩ : ∃ x, x = l[k] := ⟨_, rfl⟩
   have hkx : l[k]? = some x := by rw [hx, List.getElem?_eq_getElem hlt]
   have hrg := (hh.below hb hg) k x hkx
   obtain ⟨s, hs⟩ : ∃ s, s = sumL (l.take k) := ⟨_, rfl⟩
   have hnext : sumL (l.take (k + 1)) = s + x := by rw [hs]; exact sumL_take hkx
   rw [← hs] at z2
   have hS0 : ∀ U, Below w.heap.size w U → U.cell? ⟨g, off + k * 2, none⟩ = some (.int .i64 (hiS x)) ∧ U.cell? ⟨g, off + k * 2 + 1, none⟩ = some (.int .u64 (loN x)) := fun U hU => by
    have h2 := hh.below hU hg k x hkx
    have h3 := h2 0 (.int .i64 (hiS x)) rfl
    rw [Nat.add_zero] at h3
    exact ⟨h3, h2 1 (.int .u64 (loN x)) rfl⟩
   have hS := Lib.hid hS0
   have HR := Lib.hid (And.intro hb (And.intro z1 (And.intro z2 (And.intro hlt hnext))))
   have HL := Lib.hid (And.intro (loN_lt s) (And.intro (loN_lt x) (And.intro (hi_add s x) (lo_add s x))))
   clear hb z1 z2 hlt hk hx hkx hrg hs hnext hS0 hh hg
   go_upto_region 5 with fail
   have hadd := fun W => add64_run (loN s : Int) (loN x : Int) (by omega) (by omega) W
   refine wp_region_noPanic (wp_region_held (S := fun U => U.cell? ⟨w.heap.size + 1, 1, none⟩ = some (.int .u64 (loN s)) ∧ U.cell? ⟨g, off + k * 2 + 1, none⟩ = some (.int .u64 (loN x))) (by kernel_rfl) ?_)
   change wpAnyH _ _ _ _ _ 13 _ _ (World.drew wr)
   have hcd : Below wr.heap.size wr wr.drew := (Below.refl _ _).drew
   generalize World.drew wr = wd at hcd ⊢
   have hcur := And.intro ((HR.out.2.2.1.below hcd HR.out.2.2.1.lt).cell 1 (v := .int .u64 (loN s)) rfl) (hS.out _ (HR.out.1.trans (hcd.mono HR.out.1.size))).2
   refine tk 0 (.pointer (some ⟨w.heap.size + 1, 1, none⟩)) 14 rfl rfl hcur ?_
   refine tk 1 (.int .u64 (loN s)) 15 rfl rfl hcur ?_ (by intro w' hS'; have q := hS'.1; unfold execOp; simp [go_sem, q])
   refine tk 2 (.slice (some ⟨g, off, none⟩) l.length c) 16 rfl rfl hcur ?_
   refine tk 3 (.int .i64 k) 17 rfl rfl hcur ?_
   refine tk 4 (.pointer (some ⟨g, off + k * 2, none⟩)) 18 rfl rfl hcur ?_ (by intro w' hS'; unfold execOp; simp [go_sem, m0, m1])
   refine tk 5 (.pointer (some ⟨g, off + k * 2 + 1, none⟩)) 19 rfl rfl hcur ?_
   refine tk 6 (.int .u64 (loN x)) 20 rfl rfl hcur ?_ (by intro w' hS'; have q := hS'.2; unfold execOp; simp [go_sem, q])
   refine tk 7 (.tuple #[.int .u64 (((loN s : Int) + (loN x : Int)) % 18446744073709551616), .int .u64 (((loN s : Int) + (loN x : Int)) / 18446744073709551616)]) 21 rfl rfl hcur ?_ (by intro w' hS'; have q := hadd w'; unfold execOp; simp [go_sem, q])
   refine tk 8 (.tuple #[.int .u64 (((loN s : Int) + (loN x : Int)) % 18446744073709551616), .int .u64 (((loN s : Int) + (loN x : Int)) / 18446744073709551616)]) 13 rfl rfl hcur ?_
   refine tk 9 (.int .u64 (((loN s : Int) + (loN x : Int)) % 18446744073709551616)) 22 rfl rfl hcur ?_
   refine tk 10 (.int .u64 (((loN s : Int) + (loN x : Int)) / 18446744073709551616)) 23 rfl rfl hcur ?_
   refine tk 11 (.int .u64 (((loN s : Int) + (loN x : Int)) % 18446744073709551616)) 5 rfl rfl hcur ?_
   refine tk 12 (.int .u64 (((loN s : Int) + (loN x : Int)) / 18446744073709551616)) 6 rfl rfl hcur ?_
   refine wpAnyH_done (by kernel_rfl) ?_ _
   unfold NoPanic
   dsimp only
   have e2 : ((loN s : Int) + (loN x : Int)) % 18446744073709551616 = (loN (s + x) : Int) := by
    rw [HL.out.2.2.2]
    omega
   rw [e2]
   obtain ⟨cr, hcr⟩ : ∃ c, c = ((loN s : Int) + (loN x : Int)) / 18446744073709551616 := ⟨_, rfl⟩
   rw [← hcr]
   have z1 := HR.out.2.1.below hcd HR.out.2.1.lt
   have z2 := HR.out.2.2.1.below hcd HR.out.2.2.1.lt
   have hbd := HR.out.1.trans (hcd.mono HR.out.1.size)
   have f1 := z2.free 1
   have q1 := z2.cell 1 (v := .int .u64 (loN s)) rfl
   have HZ := Lib.hid (And.intro z1 (And.intro z2 (And.intro hbd hcr)))
   clear z1 z2 hbd hcr hcd hadd e2 hcur
   go_upto_region 7 with fail
   have hL3 : Lies (wd.setCell ⟨w.heap.size + 1, 1, none⟩ (.int .u64 (loN (s + x)))) (w.heap.size + 1) #[.int .i64 (hiS s), .int .u64 (loN (s + x))] 48 := HZ.out.2.1.set 1 _
   have hL4 : Lies (wd.setCell ⟨w.heap.size + 1, 1, none⟩ (.int .u64 (loN (s + x)))) w.heap.size #[.int .i64 0, .int .u64 0] 48 := HZ.out.1.other _ _ (by simp)
   have hb3 : Below w.heap.size w (wd.setCell ⟨w.heap.size + 1, 1, none⟩ (.int .u64 (loN (s + x)))) := below_setCell HZ.out.2.2.1 _ _ (by simp)
   clear f1 q1
   generalize wd.setCell ⟨w.heap.size + 1, 1, none⟩ (.int .u64 (loN (s + x))) = W6 at hL3 hL4 hb3 ⊢
   obtain ⟨A, hA⟩ : ∃ A, A = IntKind.u64.wrap (hiS s) := ⟨_, rfl⟩
   obtain ⟨B, hB⟩ : ∃ B, B = IntKind.u64.wrap (hiS x) := ⟨_, rfl⟩
   obtain ⟨C, hC⟩ : ∃ C, C = IntKind.u64.wrap (A + B) := ⟨_, rfl⟩
   obtain ⟨D, hD⟩ : ∃ D, D = IntKind.u64.wrap (C + cr) := ⟨_, rfl⟩
   have hE : IntKind.i64.wrap D = hiS (s + x) := by
    rw [HL.out.2.2.1, hD, hC, hA, hB, HZ.out.2.2.2]
    have h1 := HL.out.1
    have h2 := HL.out.2.1
    have hu : ∀ z : Int, IntKind.u64.wrap z = z % 18446744073709551616 := fun z => rfl
    simp only [IntKind.wrap_i64, hu]
    omega
   have hA := hA.symm
   have hB := hB.symm
   have hC := hC.symm
   have hD := hD.symm
   have q0' : ∀ U, Lies U (w.heap.size + 1) #[.int .i64 (hiS s), .int .u64 (loN (s + x))] 48 → U.cell? ⟨w.heap.size + 1, 0, none⟩ = some (.int .i64 (hiS s)) := fun U hU => hU.cell 0 rfl
   refine wp_region_noPanic (wp_region_late (fun j => j == 14) (fun U => U.cell? ⟨w.heap.size + 1, 0, none⟩ = some (.int .i64 (hiS s)) ∧ U.cell? ⟨g, off + k * 2, none⟩ = some (.int .i64 (hiS x))) (by kernel_rfl) ?_)
   change wpLate _ _ _ _ _ _ 15 _ _ (World.drew W6)
   have hdr : Below W6.heap.size W6 W6.drew := (Below.refl _ _).drew
   have hL3 := hL3.below hdr hL3.lt
   have hL4 := hL4.below hdr hL4.lt
   have hb3 := hb3.trans (hdr.mono hb3.size)
   clear hdr q0'
   generalize W6.drew = W7 at hL3 hL4 hb3 ⊢
   have hcur := And.intro (hL3.cell 0 (v := .int .i64 (hiS s)) rfl) (hS.out W7 hb3).1
   have q0 := hcur.1
   have f0 := hL3.free 0
   refine late_take (i := 0) (v := (.pointer (some ⟨w.heap.size + 1, 0, none⟩))) rfl 26 rfl (by kernel_rfl) (by kernel_rfl) (by kernel_rfl) (by kernel_rfl) (fun _ _ _ h => h) (by rfl) (by intro w' hS'; unfold execOp; simp [go_sem]) hcur _ rfl ?_
   simp only [Act.put, List.setIfInBounds_toArray, List.set_cons_zero, List.set_cons_succ]
   refine late_take (i := 1) (v := (.int .i64 (hiS s))) rfl 27 rfl (by kernel_rfl) (by kernel_rfl) (by kernel_rfl) (by kernel_rfl) (fun _ _ _ h => h) (by rfl) (by intro w' hS'; have q := hS'.1; unfold execOp; simp [go_sem, q]) hcur _ rfl ?_
   simp only [Act.put, List.setIfInBounds_toArray, List.set_cons_zero, List.set_cons_succ]
   refine late_take (i := 2) (v := (.int .u64 A)) rfl 28 rfl (by kernel_rfl) (by kernel_rfl) (by kernel_rfl) (by kernel_rfl) (fun _ _ _ h => h) (by rfl) (by intro w' hS'; unfold execOp; simp [go_sem, hA]) hcur _ rfl ?_
   simp only [Act.put, List.setIfInBounds_toArray, List.set_cons_zero, List.set_cons_succ]
   refine late_take (i := 3) (v := (.slice (some ⟨g, off, none⟩) l.length c)) rfl 29 rfl (by kernel_rfl) (by kernel_rfl) (by kernel_rfl) (by kernel_rfl) (fun _ _ _ h => h) (by rfl) (by intro w' hS'; unfold execOp; simp [go_sem]) hcur _ rfl ?_
   simp only [Act.put, List.setIfInBounds_toArray, List.set_cons_zero, List.set_cons_succ]
   refine late_take (i := 4) (v := (.int .i64 k)) rfl 30 rfl (by kernel_rfl) (by kernel_rfl) (by kernel_rfl) (by kernel_rfl) (fun _ _ _ h => h) (by rfl) (by intro w' hS'; unfold execOp; simp [go_sem]) hcur _ rfl ?_
   simp only [Act.put, List.setIfInBounds_toArray, List.set_cons_zero, List.set_cons_succ]
   refine late_take (i := 5) (v := (.pointer (some ⟨g, off + k * 2, none⟩))) rfl 31 rfl (by kernel_rfl) (by kernel_rfl) (by kernel_rfl) (by kernel_rfl) (fun _ _ _ h => h) (by rfl) (by intro w' hS'; unfold execOp; simp [go_sem, m0, m1]) hcur _ rfl ?_
   simp only [Act.put, List.setIfInBounds_toArray, List.set_cons_zero, List.set_cons_succ]
   refine late_take (i := 6) (v := (.pointer (some ⟨g, off + k * 2, none⟩))) rfl 32 rfl (by kernel_rfl) (by kernel_rfl) (by kernel_rfl) (by kernel_rfl) (fun _ _ _ h => h) (by rfl) (by intro w' hS'; unfold execOp; simp [go_sem]) hcur _ rfl ?_
   simp only [Act.put, List.setIfInBounds_toArray, List.set_cons_zero, List.set_cons_succ]
   refine late_take (i := 7) (v := (.int .i64 (hiS x))) rfl 33 rfl (by kernel_rfl) (by kernel_rfl) (by kernel_rfl) (by kernel_rfl) (fun _ _ _ h => h) (by rfl) (by intro w' hS'; have q := hS'.2; unfold execOp; simp [go_sem, q]) hcur _ rfl ?_
   simp only [Act.put, List.setIfInBounds_toArray, List.set_cons_zero, List.set_cons_succ]
   refine late_take (i := 8) (v := (.int .u64 B)) rfl 34 rfl (by kernel_rfl) (by kernel_rfl) (by kernel_rfl) (by kernel_rfl) (fun _ _ _ h => h) (by rfl) (by intro w' hS'; unfold execOp; simp [go_sem, hB]) hcur _ rfl ?_
   simp only [Act.put, List.setIfInBounds_toArray, List.set_cons_zero, List.set_cons_succ]
   refine late_take (i := 9) (v := (.int .u64 C)) rfl 35 rfl (by kernel_rfl) (by kernel_rfl) (by kernel_rfl) (by kernel_rfl) (fun _ _ _ h => h) (by rfl) (by intro w' hS'; unfold execOp; simp [go_sem, hC]) hcur _ rfl ?_
   simp only [Act.put, List.setIfInBounds_toArray, List.set_cons_zero, List.set_cons_succ]
   refine late_take (i := 10) (v := (.int .u64 cr)) rfl 36 rfl (by kernel_rfl) (by kernel_rfl) (by kernel_rfl) (by kernel_rfl) (fun _ _ _ h => h) (by rfl) (by intro w' hS'; unfold execOp; simp [go_sem]) hcur _ rfl ?_
   simp only [Act.put, List.setIfInBounds_toArray, List.set_cons_zero, List.set_cons_succ]
   refine late_take (i := 11) (v := (.int .u64 D)) rfl 37 rfl (by kernel_rfl) (by kernel_rfl) (by kernel_rfl) (by kernel_rfl) (fun _ _ _ h => h) (by rfl) (by intro w' hS'; unfold execOp; simp [go_sem, hD]) hcur _ rfl ?_
   simp only [Act.put, List.setIfInBounds_toArray, List.set_cons_zero, List.set_cons_succ]
   refine late_take (i := 12) (v := (.int .i64 (hiS (s + x)))) rfl 38 rfl (by kernel_rfl) (by kernel_rfl) (by kernel_rfl) (by kernel_rfl) (fun _ _ _ h => h) (by rfl) (by intro w' hS'; unfold execOp; simp [go_sem, hE]) hcur _ rfl ?_
   simp only [Act.put, List.setIfInBounds_toArray, List.set_cons_zero, List.set_cons_succ]
   refine late_take (i := 13) (v := (.pointer (some ⟨w.heap.size + 1, 0, none⟩))) rfl 39 rfl (by kernel_rfl) (by kernel_rfl) (by kernel_rfl) (by kernel_rfl) (fun _ _ _ h => h) (by rfl) (by intro w' hS'; unfold execOp; simp [go_sem]) hcur _ rfl ?_
   simp only [Act.put, List.setIfInBounds_toArray, List.set_cons_zero, List.set_cons_succ]
   refine late_one (i := 14) (by kernel_rfl) _ rfl (wpOp_skipG (w' := W7.setCell ⟨w.heap.size + 1, 0, none⟩ (.int .i64 (hiS (s + x)))) rfl (by rfl) rfl (by unfold execOp; simp [go_sem, q0, f0]) ?_)
   refine ⟨fun e => (by cases e), ?_⟩
   refine late_done (by kernel_rfl) ?_ _
   unfold NoPanic
   dsimp only
   have HZ2 := Lib.hid (And.intro hL3 (And.intro hL4 hb3))
   clear hL3 hL4 hb3 HZ q0 f0 hcur hA hB hC hD hE
   go_wp2_with fail
   have e1 : (k : Int) + 1 = ((k + 1 : Nat) : Int) := by omega
   rw [e1]
   refine ⟨⟨k + 1, HR.out.2.2.2.1, rfl, below_setCell HZ2.out.2.2 _ _ (by simp), HZ2.out.2.1.other _ _ (by simp), by rw [HR.out.2.2.2.2]; exact HZ2.out.1.set 0 _⟩, ?_⟩
   have h := HR.out.2.2.2.1
   show l.length - (k + 1) < l.length - k
   omega
  ·
   have e1 : k = l.length := by omega
   have m1 : ¬ (k : Int) < (l.length : Int) := by omega
   rw [e1, List.take_length] at z2
   have HF := Lib.hid (And.intro hb (And.intro z1 z2))
   have c0 := z2.cell 0 (v := .int .i64 (hiS (sumL l))) rfl
   have c1 := z2.cell 1 (v := .int .u64 (loN (sumL l))) rfl
   clear hb z1 z2 hk hlt e1
   go_wp2_with (refine wpList_store_row rfl 48 _ _ rfl w.heap.size (wC (sumL l)) rfl rfl 48 #[.int .i64 0, .int .u64 0] HF.out.2.1 info_wide rfl (wC_one _) ?_)
   refine bodyPost_ret (v := wv (sumL l)) (results_cell_row (p := 2) (ty := 48) (by kernel_rfl) _ _ w.heap.size 48 (wC (sumL l)) (0, 0) _ rfl (HF.out.2.1.setRow _) Tryz.underlying48 rfl info_wide) rfl ⟨rfl, below_setRow HF.out.1 _ _ (Nat.le_refl _)⟩
end Go.Proofs.YtjngghihciimjaaGreat
