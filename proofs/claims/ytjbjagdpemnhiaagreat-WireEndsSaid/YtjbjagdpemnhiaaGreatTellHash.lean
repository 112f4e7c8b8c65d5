/-
  tells: the ask of a hash, of no reader; then each ask.
-/
import Derived.Test.YtjbjagdpemnhiaaGreatTellNil
namespace Go.Proofs.YtjbjagdpemnhiaaGreat
open Go.RowKit
theorem z32_one : z32.all (·.oneCell') = true := B8_one _
attribute [local irreducible] z32
set_option maxRecDepth 100000 in
set_option maxHeartbeats 1000000 in
theorem tells_nobody5 (w : World) (p : Option Addr) (cs : Array Value) (hc : PutC cs) (n0 : Int) (e0 : cs[0]? = some (.int .i64 n0)) (hd : n0 % 10 = 5) (h : Nobody w p) : Calls Tryz.prog 14 #[.pointer p, .agg cs] w fun e w' => e = .returned (.agg (toldE 1)) ∧ Below w.heap.size w w' := by
  have hl : Lies (((w.alloc (.cells cs 28)).alloc (.cells (toldE 0) 49)).alloc (.cells (toldE 0) 49)) w.heap.size cs 28 := ((Lies.new w cs 28).alloc _).alloc _
  have tw := TW.start w cs
  obtain ⟨hsz, _, ⟨n1, e1⟩, _⟩ := hc
  have c0 := hl.cell 0 e0
  have c1 := hl.cell 1 e1
  have hpk := pick_any n0 (((w.alloc (.cells cs 28)).alloc (.cells (toldE 0) 49)).alloc (.cells (toldE 0) 49))
  rw [hd] at hpk
  have c0' := c0
  have c1' := c1
  have HP := Lib.hid (And.intro hpk (And.intro c0' c1'))
  unfold toldE at c0 c1
  clear e0 e1 hpk hd hl c0' c1' hsz
  go_enter Tryz.func14, Tryz.ntmps14
  go_wp2_with fail
  refine HP.out.1.mono ?_
  rintro e w1 ⟨rfl, rfl⟩
  clear c0 c1
  generalize ((w.alloc (.cells cs 28)).alloc (.cells (toldE 0) 49)).alloc (.cells (toldE 0) 49) = W0 at tw HP ⊢
  have c0 := HP.out.2.1
  have c1 := HP.out.2.2
  go_wp2_with fail
  refine (ask57_idle _ p (h.below tw.below).idle).mono ?_
  rintro e w2 ⟨rfl, hb2⟩
  have tw2 := tw.on hb2
  clear hb2 tw c0 c1 HP
  have tw3 : TW w (w2.setCells (w.heap.size + 2) 2 z32.toList) 0 := ⟨tw2.told.sames _ 2 told_mid, tw2.back.outs (by omega) _ 2, below_cells tw2.below (by omega) _ 2⟩
  have hth : w2.there (w.heap.size + 2) 2 z32.size := fun j hj => ⟨by rw [tw2.told.cell (2 + j) (told_mid j _ (z32_get j hj))]; rfl, tw2.told.free (2 + j)⟩
  have HTH := Lib.hid hth
  clear hth tw2
  go_wp2_with (refine wpList_store_mid rfl 25 _ _ rfl (w.heap.size + 1 + 1) 2 _ rfl rfl HTH.out info33 z32_one ?_)
  have nb4 := h.below tw3.below
  refine (left_idle _ p nb4.idle).mono ?_
  rintro e w4 ⟨rfl, rfl⟩
  have c4 := tw3.told.cell 36 (v := .int .i64 0) rfl
  have f4 := tw3.told.free 36
  have tw4 := tw3.put 36 (.int .i64 0) rfl
  go_wp2_with fail
  clear c4 f4 tw3
  refine (err_nobody _ p (h.below tw4.below)).mono ?_
  rintro e w5 ⟨rfl, rfl⟩
  have c5 := tw4.told.cell 37 (v := .int .i64 0) rfl
  have f5 := tw4.told.free 37
  have tw5 := tw4.err
  go_wp2_with fail
  clear c5 f5 tw4
  refine (end_idle _ p (h.below tw5.below).idle).mono ?_
  rintro e w6 ⟨rfl, rfl⟩
  have c6 := tw5.told.cell 38 (v := .bool false) rfl
  have f6 := tw5.told.free 38
  have tw6 := tw5.put 38 (.bool false) rfl
  go_upto_region 25 with fail
  clear c6 f6 tw5
  have tw7 : TW w ((((w2.setCells (w.heap.size + 2) 2 z32.toList).setCell ⟨w.heap.size + 2, 36, none⟩ (.int .i64 0)).setCell ⟨w.heap.size + 2, 37, none⟩ (.int .i64 1)).setCell ⟨w.heap.size + 1 + 1, 38, none⟩ (.bool false)) 1 := tw6
  clear tw6
  generalize ((((w2.setCells (w.heap.size + 2) 2 z32.toList).setCell ⟨w.heap.size + 2, 36, none⟩ (.int .i64 0)).setCell ⟨w.heap.size + 2, 37, none⟩ (.int .i64 1)).setCell ⟨w.heap.size + 1 + 1, 38, none⟩ (.bool false)) = W6 at tw7 ⊢
  have H6 := Lib.hid tw7
  clear tw7 nb4
  go_wp2_with (first
    | (refine wpList_load_row rfl 49 _ rfl (w.heap.size + 1 + 1) rfl 49 (toldE 1) (0, 0) _ H6.out.told Tryz.underlying49 rfl (info47 1) ?_)
    | (refine wpList_store_row rfl 49 _ _ rfl (w.heap.size + 1) (toldE 1) rfl rfl 49 (toldE 0) H6.out.back (info47 1) rfl (told_one 1) ?_))
  refine bodyPost_ret (v := .agg (toldE 1)) (results_cell_row (p := 4) (ty := 49) (by kernel_rfl) _ _ (w.heap.size + 1) 49 (toldE 1) (0, 0) _ rfl (H6.out.back.setRow _) Tryz.underlying49 rfl (info47 1)) rfl ⟨rfl, below_setRow H6.out.below _ _ (by omega)⟩
theorem tells_nobody (w : World) (p : Option Addr) (cs : Array Value) (hc : PutC cs) (h : Nobody w p) : Calls Tryz.prog 14 #[.pointer p, .agg cs] w fun e w' => e = .returned (.agg (toldE 1)) ∧ Below w.heap.size w w' := by
  obtain ⟨n0, e0⟩ := hc.what
  have hd : n0 % 10 = 0 ∨ n0 % 10 = 1 ∨ n0 % 10 = 2 ∨ n0 % 10 = 3 ∨ n0 % 10 = 4 ∨ n0 % 10 = 5 ∨ n0 % 10 = 6 ∨ n0 % 10 = 7 ∨ n0 % 10 = 8 ∨ n0 % 10 = 9 := by omega
  rcases hd with hd | hd | hd | hd | hd | hd | hd | hd | hd | hd
  · exact tells_nobody0 w p cs hc n0 e0 hd h
  · exact tells_nobody1 w p cs hc n0 e0 hd h
  · exact tells_nobody2 w p cs hc n0 e0 hd h
  · exact tells_nobody3 w p cs hc n0 e0 hd h
  · exact tells_nobody4 w p cs hc n0 e0 hd h
  · exact tells_nobody5 w p cs hc n0 e0 hd h
  · exact tells_nobody6 w p cs hc n0 e0 hd h
  · exact tells_nobody7 w p cs hc n0 e0 hd h
  · exact tells_nobody8 w p cs hc n0 e0 hd h
  · exact tells_nobody9 w p cs hc n0 e0 hd h
end Go.Proofs.YtjbjagdpemnhiaaGreat
