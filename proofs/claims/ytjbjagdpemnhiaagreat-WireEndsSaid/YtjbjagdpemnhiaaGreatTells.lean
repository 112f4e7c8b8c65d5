/-
  tells: what it tells of a reader, each ask.
-/
import Derived.Test.YtjbjagdpemnhiaaGreatTX
namespace Go.Proofs.YtjbjagdpemnhiaaGreat
open Go.RowKit

set_option maxRecDepth 100000 in
set_option maxHeartbeats 2000000 in
theorem tells_st0 (w : World) (g k : Nat) (xs : List UInt8) (c : Nat) (st : Option Nat) (cs : Array Value) (n0 n1 : Int) (n2 : Nat) (hs : List UInt8) (bv : Value) (s : ByteArray) (hV : PutV cs n0 n1 n2 hs bv s) (hd : n0 % 10 = 0) (h : RSt w g k xs c (st)) :
    Calls Tryz.prog 14 #[.pointer (some ⟨g, 0, none⟩), .agg cs] w fun e w' => e = .returned (.agg (fin ((toldE 0).setIfInBounds 0 (.int .i64 (numV xs st 1))) xs (numS xs st 1))) ∧ RSt w' g k xs c (numS xs st 1) ∧ Only g w w' none := by
  have hl : Lies (((w.alloc (.cells cs 28)).alloc (.cells (toldE 0) 49)).alloc (.cells (toldE 0) 49)) w.heap.size cs 28 := ((Lies.new w cs 28).alloc _).alloc _
  have tx := TX.start w cs g h.lt.1
  have hb0 := TX.below w cs
  have HL := Lib.hid (And.intro h.lt.1 h.lt.2.1)
  have c0 := hl.cell 0 hV.what
  have c1 := hl.cell 1 hV.num
  have hpk := pick_any n0 (((w.alloc (.cells cs 28)).alloc (.cells (toldE 0) 49)).alloc (.cells (toldE 0) 49))
  rw [hd] at hpk
  have c0' := c0
  have c1' := c1
  have HP := Lib.hid (And.intro hpk (And.intro c0' c1'))
  unfold toldE at c0 c1
  clear hpk hd hl c0' c1' hV
  go_enter Tryz.func14, Tryz.ntmps14
  go_wp2_with fail
  refine HP.out.1.mono ?_
  rintro e w1 ⟨rfl, rfl⟩
  clear c0 c1
  have h0 := h.below hb0
  clear hb0 h
  generalize ((w.alloc (.cells cs 28)).alloc (.cells (toldE 0) 49)).alloc (.cells (toldE 0) 49) = W0 at tx HP h0 ⊢
  have c0 := HP.out.2.1
  have c1 := HP.out.2.2
  have HC := Lib.hid (ask25_st W0 g k xs c st h0)
  clear h0
  go_wp2_with fail
  refine HC.out.mono ?_
  rintro e w2 ⟨rfl, hr2, ho2⟩
  have tx2 := tx.call ho2
  have hsz := tx2.told.lt
  clear tx c0 c1 HP HC ho2
  obtain ⟨old, c2, o2⟩ := tx2.old 0 (by omega)
  have f2 := tx2.told.free 0
  have tx3 := tx2.put 0 (.int .i64 (numV xs st 1)) rfl
  have hr3 := hr2.only (only_set (w.heap.size + 2) 0 w2 (.int .i64 (numV xs st 1))) (by have := HL.out.1; omega) (by have := HL.out.2; omega)
  clear tx2 hr2
  go_wp2_with fail
  clear c2 f2 o2
  refine (left_rst _ g k xs c (numS xs st 1) hr3).mono ?_
  rintro e w4 ⟨rfl, hb4⟩
  have tx4 := tx3.call (only_below hb4)
  have hr4 := hr3.below hb4
  clear tx3 hr3 hb4
  obtain ⟨old, c2, o2⟩ := tx4.old 36 (by omega)
  have f2 := tx4.told.free 36
  have tx5 := tx4.put 36 (.int .i64 (leftV xs (numS xs st 1))) rfl
  have hr5 := hr4.only (only_set (w.heap.size + 2) 36 _ (.int .i64 (leftV xs (numS xs st 1)))) (by have := HL.out.1; omega) (by have := HL.out.2; omega)
  clear tx4 hr4
  go_wp2_with fail
  clear c2 f2 o2
  refine (err_rst _ g k xs c (numS xs st 1) hr5).mono ?_
  rintro e w6 ⟨rfl, rfl⟩
  have tx6 := tx5
  have hr6 := hr5
  clear tx5 hr5
  obtain ⟨old, c2, o2⟩ := tx6.old 37 (by omega)
  have f2 := tx6.told.free 37
  have tx7 := tx6.put 37 (.int .i64 (errV (numS xs st 1))) rfl
  have hr7 := hr6.only (only_set (w.heap.size + 2) 37 _ (.int .i64 (errV (numS xs st 1)))) (by have := HL.out.1; omega) (by have := HL.out.2; omega)
  clear tx6 hr6
  go_wp2_with fail
  clear c2 f2 o2
  refine (end_rst _ g k xs c (numS xs st 1) hr7).mono ?_
  rintro e w8 ⟨rfl, hb8⟩
  have tx8 := tx7.call (only_below hb8)
  have hr8 := hr7.below hb8
  clear tx7 hr7 hb8
  obtain ⟨old, c2, o2⟩ := tx8.old 38 (by omega)
  have f2 := tx8.told.free 38
  have tx9 := tx8.put 38 (.bool (endV xs (numS xs st 1))) rfl
  have hr9 := hr8.only (only_set (w.heap.size + 2) 38 _ (.bool (endV xs (numS xs st 1)))) (by have := HL.out.1; omega) (by have := HL.out.2; omega)
  clear tx8 hr8
  go_upto_region 25 with fail
  clear c2 f2 o2
  have HX := Lib.hid (And.intro tx9 hr9)
  have hi47 := size_47 tx9.sz
  have h47 := all_one tx9.one
  have hs47 : (toldE 0).size = (fin ((toldE 0).setIfInBounds 0 (.int .i64 (numV xs st 1))) xs (numS xs st 1)).size := by show 39 = _; exact tx9.sz.symm
  clear tx9 hr9
  go_wp2_with (first
    | (refine wpList_load_row rfl 49 _ rfl (w.heap.size + 1 + 1) rfl 49 (fin ((toldE 0).setIfInBounds 0 (.int .i64 (numV xs st 1))) xs (numS xs st 1)) (0, 0) _ HX.out.1.told Tryz.underlying49 rfl hi47 ?_)
    | (refine wpList_store_row rfl 49 _ _ rfl (w.heap.size + 1) (fin ((toldE 0).setIfInBounds 0 (.int .i64 (numV xs st 1))) xs (numS xs st 1)) rfl rfl 49 (toldE 0) HX.out.1.back hi47 hs47 h47 ?_))
  refine bodyPost_ret (v := .agg (fin ((toldE 0).setIfInBounds 0 (.int .i64 (numV xs st 1))) xs (numS xs st 1))) (results_cell_row (p := 4) (ty := 49) (by kernel_rfl) _ _ (w.heap.size + 1) 49 (fin ((toldE 0).setIfInBounds 0 (.int .i64 (numV xs st 1))) xs (numS xs st 1)) (0, 0) _ rfl (HX.out.1.back.setRow _) Tryz.underlying49 rfl hi47) rfl ⟨rfl, ?_, only_row HX.out.1.only (by omega) _⟩
  exact HX.out.2.only (only_rows (w.heap.size + 1) _ _) (by have := HL.out.1; omega) (by have := HL.out.2; omega)
set_option maxRecDepth 100000 in
set_option maxHeartbeats 2000000 in
theorem tells_st1 (w : World) (g k : Nat) (xs : List UInt8) (c : Nat) (st : Option Nat) (cs : Array Value) (n0 n1 : Int) (n2 : Nat) (hs : List UInt8) (bv : Value) (s : ByteArray) (hV : PutV cs n0 n1 n2 hs bv s) (hd : n0 % 10 = 1) (h : RSt w g k xs c (st)) :
    Calls Tryz.prog 14 #[.pointer (some ⟨g, 0, none⟩), .agg cs] w fun e w' => e = .returned (.agg (fin ((toldE 0).setIfInBounds 0 (.int .i64 (numV xs st 2))) xs (numS xs st 2))) ∧ RSt w' g k xs c (numS xs st 2) ∧ Only g w w' none := by
  have hl : Lies (((w.alloc (.cells cs 28)).alloc (.cells (toldE 0) 49)).alloc (.cells (toldE 0) 49)) w.heap.size cs 28 := ((Lies.new w cs 28).alloc _).alloc _
  have tx := TX.start w cs g h.lt.1
  have hb0 := TX.below w cs
  have HL := Lib.hid (And.intro h.lt.1 h.lt.2.1)
  have c0 := hl.cell 0 hV.what
  have c1 := hl.cell 1 hV.num
  have hpk := pick_any n0 (((w.alloc (.cells cs 28)).alloc (.cells (toldE 0) 49)).alloc (.cells (toldE 0) 49))
  rw [hd] at hpk
  have c0' := c0
  have c1' := c1
  have HP := Lib.hid (And.intro hpk (And.intro c0' c1'))
  unfold toldE at c0 c1
  clear hpk hd hl c0' c1' hV
  go_enter Tryz.func14, Tryz.ntmps14
  go_wp2_with fail
  refine HP.out.1.mono ?_
  rintro e w1 ⟨rfl, rfl⟩
  clear c0 c1
  have h0 := h.below hb0
  clear hb0 h
  generalize ((w.alloc (.cells cs 28)).alloc (.cells (toldE 0) 49)).alloc (.cells (toldE 0) 49) = W0 at tx HP h0 ⊢
  have c0 := HP.out.2.1
  have c1 := HP.out.2.2
  have HC := Lib.hid (ask53_st W0 g k xs c st h0)
  clear h0
  go_wp2_with fail
  refine HC.out.mono ?_
  rintro e w2 ⟨rfl, hr2, ho2⟩
  have tx2 := tx.call ho2
  have hsz := tx2.told.lt
  clear tx c0 c1 HP HC ho2
  obtain ⟨old, c2, o2⟩ := tx2.old 0 (by omega)
  have f2 := tx2.told.free 0
  have tx3 := tx2.put 0 (.int .i64 (numV xs st 2)) rfl
  have hr3 := hr2.only (only_set (w.heap.size + 2) 0 w2 (.int .i64 (numV xs st 2))) (by have := HL.out.1; omega) (by have := HL.out.2; omega)
  clear tx2 hr2
  go_wp2_with fail
  clear c2 f2 o2
  refine (left_rst _ g k xs c (numS xs st 2) hr3).mono ?_
  rintro e w4 ⟨rfl, hb4⟩
  have tx4 := tx3.call (only_below hb4)
  have hr4 := hr3.below hb4
  clear tx3 hr3 hb4
  obtain ⟨old, c2, o2⟩ := tx4.old 36 (by omega)
  have f2 := tx4.told.free 36
  have tx5 := tx4.put 36 (.int .i64 (leftV xs (numS xs st 2))) rfl
  have hr5 := hr4.only (only_set (w.heap.size + 2) 36 _ (.int .i64 (leftV xs (numS xs st 2)))) (by have := HL.out.1; omega) (by have := HL.out.2; omega)
  clear tx4 hr4
  go_wp2_with fail
  clear c2 f2 o2
  refine (err_rst _ g k xs c (numS xs st 2) hr5).mono ?_
  rintro e w6 ⟨rfl, rfl⟩
  have tx6 := tx5
  have hr6 := hr5
  clear tx5 hr5
  obtain ⟨old, c2, o2⟩ := tx6.old 37 (by omega)
  have f2 := tx6.told.free 37
  have tx7 := tx6.put 37 (.int .i64 (errV (numS xs st 2))) rfl
  have hr7 := hr6.only (only_set (w.heap.size + 2) 37 _ (.int .i64 (errV (numS xs st 2)))) (by have := HL.out.1; omega) (by have := HL.out.2; omega)
  clear tx6 hr6
  go_wp2_with fail
  clear c2 f2 o2
  refine (end_rst _ g k xs c (numS xs st 2) hr7).mono ?_
  rintro e w8 ⟨rfl, hb8⟩
  have tx8 := tx7.call (only_below hb8)
  have hr8 := hr7.below hb8
  clear tx7 hr7 hb8
  obtain ⟨old, c2, o2⟩ := tx8.old 38 (by omega)
  have f2 := tx8.told.free 38
  have tx9 := tx8.put 38 (.bool (endV xs (numS xs st 2))) rfl
  have hr9 := hr8.only (only_set (w.heap.size + 2) 38 _ (.bool (endV xs (numS xs st 2)))) (by have := HL.out.1; omega) (by have := HL.out.2; omega)
  clear tx8 hr8
  go_upto_region 25 with fail
  clear c2 f2 o2
  have HX := Lib.hid (And.intro tx9 hr9)
  have hi47 := size_47 tx9.sz
  have h47 := all_one tx9.one
  have hs47 : (toldE 0).size = (fin ((toldE 0).setIfInBounds 0 (.int .i64 (numV xs st 2))) xs (numS xs st 2)).size := by show 39 = _; exact tx9.sz.symm
  clear tx9 hr9
  go_wp2_with (first
    | (refine wpList_load_row rfl 49 _ rfl (w.heap.size + 1 + 1) rfl 49 (fin ((toldE 0).setIfInBounds 0 (.int .i64 (numV xs st 2))) xs (numS xs st 2)) (0, 0) _ HX.out.1.told Tryz.underlying49 rfl hi47 ?_)
    | (refine wpList_store_row rfl 49 _ _ rfl (w.heap.size + 1) (fin ((toldE 0).setIfInBounds 0 (.int .i64 (numV xs st 2))) xs (numS xs st 2)) rfl rfl 49 (toldE 0) HX.out.1.back hi47 hs47 h47 ?_))
  refine bodyPost_ret (v := .agg (fin ((toldE 0).setIfInBounds 0 (.int .i64 (numV xs st 2))) xs (numS xs st 2))) (results_cell_row (p := 4) (ty := 49) (by kernel_rfl) _ _ (w.heap.size + 1) 49 (fin ((toldE 0).setIfInBounds 0 (.int .i64 (numV xs st 2))) xs (numS xs st 2)) (0, 0) _ rfl (HX.out.1.back.setRow _) Tryz.underlying49 rfl hi47) rfl ⟨rfl, ?_, only_row HX.out.1.only (by omega) _⟩
  exact HX.out.2.only (only_rows (w.heap.size + 1) _ _) (by have := HL.out.1; omega) (by have := HL.out.2; omega)
set_option maxRecDepth 100000 in
set_option maxHeartbeats 2000000 in
theorem tells_st2 (w : World) (g k : Nat) (xs : List UInt8) (c : Nat) (st : Option Nat) (cs : Array Value) (n0 n1 : Int) (n2 : Nat) (hs : List UInt8) (bv : Value) (s : ByteArray) (hV : PutV cs n0 n1 n2 hs bv s) (hd : n0 % 10 = 2) (h : RSt w g k xs c (st)) :
    Calls Tryz.prog 14 #[.pointer (some ⟨g, 0, none⟩), .agg cs] w fun e w' => e = .returned (.agg (fin ((toldE 0).setIfInBounds 0 (.int .i64 (numV xs st 4))) xs (numS xs st 4))) ∧ RSt w' g k xs c (numS xs st 4) ∧ Only g w w' none := by
  have hl : Lies (((w.alloc (.cells cs 28)).alloc (.cells (toldE 0) 49)).alloc (.cells (toldE 0) 49)) w.heap.size cs 28 := ((Lies.new w cs 28).alloc _).alloc _
  have tx := TX.start w cs g h.lt.1
  have hb0 := TX.below w cs
  have HL := Lib.hid (And.intro h.lt.1 h.lt.2.1)
  have c0 := hl.cell 0 hV.what
  have c1 := hl.cell 1 hV.num
  have hpk := pick_any n0 (((w.alloc (.cells cs 28)).alloc (.cells (toldE 0) 49)).alloc (.cells (toldE 0) 49))
  rw [hd] at hpk
  have c0' := c0
  have c1' := c1
  have HP := Lib.hid (And.intro hpk (And.intro c0' c1'))
  unfold toldE at c0 c1
  clear hpk hd hl c0' c1' hV
  go_enter Tryz.func14, Tryz.ntmps14
  go_wp2_with fail
  refine HP.out.1.mono ?_
  rintro e w1 ⟨rfl, rfl⟩
  clear c0 c1
  have h0 := h.below hb0
  clear hb0 h
  generalize ((w.alloc (.cells cs 28)).alloc (.cells (toldE 0) 49)).alloc (.cells (toldE 0) 49) = W0 at tx HP h0 ⊢
  have c0 := HP.out.2.1
  have c1 := HP.out.2.2
  have HC := Lib.hid (ask54_st W0 g k xs c st h0)
  clear h0
  go_wp2_with fail
  refine HC.out.mono ?_
  rintro e w2 ⟨rfl, hr2, ho2⟩
  have tx2 := tx.call ho2
  have hsz := tx2.told.lt
  clear tx c0 c1 HP HC ho2
  obtain ⟨old, c2, o2⟩ := tx2.old 0 (by omega)
  have f2 := tx2.told.free 0
  have tx3 := tx2.put 0 (.int .i64 (numV xs st 4)) rfl
  have hr3 := hr2.only (only_set (w.heap.size + 2) 0 w2 (.int .i64 (numV xs st 4))) (by have := HL.out.1; omega) (by have := HL.out.2; omega)
  clear tx2 hr2
  go_wp2_with fail
  clear c2 f2 o2
  refine (left_rst _ g k xs c (numS xs st 4) hr3).mono ?_
  rintro e w4 ⟨rfl, hb4⟩
  have tx4 := tx3.call (only_below hb4)
  have hr4 := hr3.below hb4
  clear tx3 hr3 hb4
  obtain ⟨old, c2, o2⟩ := tx4.old 36 (by omega)
  have f2 := tx4.told.free 36
  have tx5 := tx4.put 36 (.int .i64 (leftV xs (numS xs st 4))) rfl
  have hr5 := hr4.only (only_set (w.heap.size + 2) 36 _ (.int .i64 (leftV xs (numS xs st 4)))) (by have := HL.out.1; omega) (by have := HL.out.2; omega)
  clear tx4 hr4
  go_wp2_with fail
  clear c2 f2 o2
  refine (err_rst _ g k xs c (numS xs st 4) hr5).mono ?_
  rintro e w6 ⟨rfl, rfl⟩
  have tx6 := tx5
  have hr6 := hr5
  clear tx5 hr5
  obtain ⟨old, c2, o2⟩ := tx6.old 37 (by omega)
  have f2 := tx6.told.free 37
  have tx7 := tx6.put 37 (.int .i64 (errV (numS xs st 4))) rfl
  have hr7 := hr6.only (only_set (w.heap.size + 2) 37 _ (.int .i64 (errV (numS xs st 4)))) (by have := HL.out.1; omega) (by have := HL.out.2; omega)
  clear tx6 hr6
  go_wp2_with fail
  clear c2 f2 o2
  refine (end_rst _ g k xs c (numS xs st 4) hr7).mono ?_
  rintro e w8 ⟨rfl, hb8⟩
  have tx8 := tx7.call (only_below hb8)
  have hr8 := hr7.below hb8
  clear tx7 hr7 hb8
  obtain ⟨old, c2, o2⟩ := tx8.old 38 (by omega)
  have f2 := tx8.told.free 38
  have tx9 := tx8.put 38 (.bool (endV xs (numS xs st 4))) rfl
  have hr9 := hr8.only (only_set (w.heap.size + 2) 38 _ (.bool (endV xs (numS xs st 4)))) (by have := HL.out.1; omega) (by have := HL.out.2; omega)
  clear tx8 hr8
  go_upto_region 25 with fail
  clear c2 f2 o2
  have HX := Lib.hid (And.intro tx9 hr9)
  have hi47 := size_47 tx9.sz
  have h47 := all_one tx9.one
  have hs47 : (toldE 0).size = (fin ((toldE 0).setIfInBounds 0 (.int .i64 (numV xs st 4))) xs (numS xs st 4)).size := by show 39 = _; exact tx9.sz.symm
  clear tx9 hr9
  go_wp2_with (first
    | (refine wpList_load_row rfl 49 _ rfl (w.heap.size + 1 + 1) rfl 49 (fin ((toldE 0).setIfInBounds 0 (.int .i64 (numV xs st 4))) xs (numS xs st 4)) (0, 0) _ HX.out.1.told Tryz.underlying49 rfl hi47 ?_)
    | (refine wpList_store_row rfl 49 _ _ rfl (w.heap.size + 1) (fin ((toldE 0).setIfInBounds 0 (.int .i64 (numV xs st 4))) xs (numS xs st 4)) rfl rfl 49 (toldE 0) HX.out.1.back hi47 hs47 h47 ?_))
  refine bodyPost_ret (v := .agg (fin ((toldE 0).setIfInBounds 0 (.int .i64 (numV xs st 4))) xs (numS xs st 4))) (results_cell_row (p := 4) (ty := 49) (by kernel_rfl) _ _ (w.heap.size + 1) 49 (fin ((toldE 0).setIfInBounds 0 (.int .i64 (numV xs st 4))) xs (numS xs st 4)) (0, 0) _ rfl (HX.out.1.back.setRow _) Tryz.underlying49 rfl hi47) rfl ⟨rfl, ?_, only_row HX.out.1.only (by omega) _⟩
  exact HX.out.2.only (only_rows (w.heap.size + 1) _ _) (by have := HL.out.1; omega) (by have := HL.out.2; omega)
set_option maxRecDepth 100000 in
set_option maxHeartbeats 2000000 in
theorem tells_st3 (w : World) (g k : Nat) (xs : List UInt8) (c : Nat) (st : Option Nat) (cs : Array Value) (n0 n1 : Int) (n2 : Nat) (hs : List UInt8) (bv : Value) (s : ByteArray) (hV : PutV cs n0 n1 n2 hs bv s) (hd : n0 % 10 = 3) (h : RSt w g k xs c (st)) :
    Calls Tryz.prog 14 #[.pointer (some ⟨g, 0, none⟩), .agg cs] w fun e w' => e = .returned (.agg (fin ((toldE 0).setIfInBounds 1 (.int .u64 (numV xs st 8))) xs (numS xs st 8))) ∧ RSt w' g k xs c (numS xs st 8) ∧ Only g w w' none := by
  have hl : Lies (((w.alloc (.cells cs 28)).alloc (.cells (toldE 0) 49)).alloc (.cells (toldE 0) 49)) w.heap.size cs 28 := ((Lies.new w cs 28).alloc _).alloc _
  have tx := TX.start w cs g h.lt.1
  have hb0 := TX.below w cs
  have HL := Lib.hid (And.intro h.lt.1 h.lt.2.1)
  have c0 := hl.cell 0 hV.what
  have c1 := hl.cell 1 hV.num
  have hpk := pick_any n0 (((w.alloc (.cells cs 28)).alloc (.cells (toldE 0) 49)).alloc (.cells (toldE 0) 49))
  rw [hd] at hpk
  have c0' := c0
  have c1' := c1
  have HP := Lib.hid (And.intro hpk (And.intro c0' c1'))
  unfold toldE at c0 c1
  clear hpk hd hl c0' c1' hV
  go_enter Tryz.func14, Tryz.ntmps14
  go_wp2_with fail
  refine HP.out.1.mono ?_
  rintro e w1 ⟨rfl, rfl⟩
  clear c0 c1
  have h0 := h.below hb0
  clear hb0 h
  generalize ((w.alloc (.cells cs 28)).alloc (.cells (toldE 0) 49)).alloc (.cells (toldE 0) 49) = W0 at tx HP h0 ⊢
  have c0 := HP.out.2.1
  have c1 := HP.out.2.2
  have HC := Lib.hid (ask55_st W0 g k xs c st h0)
  clear h0
  go_wp2_with fail
  refine HC.out.mono ?_
  rintro e w2 ⟨rfl, hr2, ho2⟩
  have tx2 := tx.call ho2
  have hsz := tx2.told.lt
  clear tx c0 c1 HP HC ho2
  obtain ⟨old, c2, o2⟩ := tx2.old 1 (by omega)
  have f2 := tx2.told.free 1
  have tx3 := tx2.put 1 (.int .u64 (numV xs st 8)) rfl
  have hr3 := hr2.only (only_set (w.heap.size + 2) 1 w2 (.int .u64 (numV xs st 8))) (by have := HL.out.1; omega) (by have := HL.out.2; omega)
  clear tx2 hr2
  go_wp2_with fail
  clear c2 f2 o2
  refine (left_rst _ g k xs c (numS xs st 8) hr3).mono ?_
  rintro e w4 ⟨rfl, hb4⟩
  have tx4 := tx3.call (only_below hb4)
  have hr4 := hr3.below hb4
  clear tx3 hr3 hb4
  obtain ⟨old, c2, o2⟩ := tx4.old 36 (by omega)
  have f2 := tx4.told.free 36
  have tx5 := tx4.put 36 (.int .i64 (leftV xs (numS xs st 8))) rfl
  have hr5 := hr4.only (only_set (w.heap.size + 2) 36 _ (.int .i64 (leftV xs (numS xs st 8)))) (by have := HL.out.1; omega) (by have := HL.out.2; omega)
  clear tx4 hr4
  go_wp2_with fail
  clear c2 f2 o2
  refine (err_rst _ g k xs c (numS xs st 8) hr5).mono ?_
  rintro e w6 ⟨rfl, rfl⟩
  have tx6 := tx5
  have hr6 := hr5
  clear tx5 hr5
  obtain ⟨old, c2, o2⟩ := tx6.old 37 (by omega)
  have f2 := tx6.told.free 37
  have tx7 := tx6.put 37 (.int .i64 (errV (numS xs st 8))) rfl
  have hr7 := hr6.only (only_set (w.heap.size + 2) 37 _ (.int .i64 (errV (numS xs st 8)))) (by have := HL.out.1; omega) (by have := HL.out.2; omega)
  clear tx6 hr6
  go_wp2_with fail
  clear c2 f2 o2
  refine (end_rst _ g k xs c (numS xs st 8) hr7).mono ?_
  rintro e w8 ⟨rfl, hb8⟩
  have tx8 := tx7.call (only_below hb8)
  have hr8 := hr7.below hb8
  clear tx7 hr7 hb8
  obtain ⟨old, c2, o2⟩ := tx8.old 38 (by omega)
  have f2 := tx8.told.free 38
  have tx9 := tx8.put 38 (.bool (endV xs (numS xs st 8))) rfl
  have hr9 := hr8.only (only_set (w.heap.size + 2) 38 _ (.bool (endV xs (numS xs st 8)))) (by have := HL.out.1; omega) (by have := HL.out.2; omega)
  clear tx8 hr8
  go_upto_region 25 with fail
  clear c2 f2 o2
  have HX := Lib.hid (And.intro tx9 hr9)
  have hi47 := size_47 tx9.sz
  have h47 := all_one tx9.one
  have hs47 : (toldE 0).size = (fin ((toldE 0).setIfInBounds 1 (.int .u64 (numV xs st 8))) xs (numS xs st 8)).size := by show 39 = _; exact tx9.sz.symm
  clear tx9 hr9
  go_wp2_with (first
    | (refine wpList_load_row rfl 49 _ rfl (w.heap.size + 1 + 1) rfl 49 (fin ((toldE 0).setIfInBounds 1 (.int .u64 (numV xs st 8))) xs (numS xs st 8)) (0, 0) _ HX.out.1.told Tryz.underlying49 rfl hi47 ?_)
    | (refine wpList_store_row rfl 49 _ _ rfl (w.heap.size + 1) (fin ((toldE 0).setIfInBounds 1 (.int .u64 (numV xs st 8))) xs (numS xs st 8)) rfl rfl 49 (toldE 0) HX.out.1.back hi47 hs47 h47 ?_))
  refine bodyPost_ret (v := .agg (fin ((toldE 0).setIfInBounds 1 (.int .u64 (numV xs st 8))) xs (numS xs st 8))) (results_cell_row (p := 4) (ty := 49) (by kernel_rfl) _ _ (w.heap.size + 1) 49 (fin ((toldE 0).setIfInBounds 1 (.int .u64 (numV xs st 8))) xs (numS xs st 8)) (0, 0) _ rfl (HX.out.1.back.setRow _) Tryz.underlying49 rfl hi47) rfl ⟨rfl, ?_, only_row HX.out.1.only (by omega) _⟩
  exact HX.out.2.only (only_rows (w.heap.size + 1) _ _) (by have := HL.out.1; omega) (by have := HL.out.2; omega)
set_option maxRecDepth 100000 in
set_option maxHeartbeats 2000000 in
theorem tells_st4 (w : World) (g k : Nat) (xs : List UInt8) (c : Nat) (st : Option Nat) (cs : Array Value) (n0 n1 : Int) (n2 : Nat) (hs : List UInt8) (bv : Value) (s : ByteArray) (hV : PutV cs n0 n1 n2 hs bv s) (hd : n0 % 10 = 4) (h : RSt w g k xs c (st)) :
    Calls Tryz.prog 14 #[.pointer (some ⟨g, 0, none⟩), .agg cs] w fun e w' => e = .returned (.agg (fin ((toldE 0).setIfInBounds 1 (.int .u64 (IntKind.u64.wrap (IntKind.i64.wrap (numV xs st 8))))) xs (numS xs st 8))) ∧ RSt w' g k xs c (numS xs st 8) ∧ Only g w w' none := by
  obtain ⟨z, hz⟩ : ∃ z, IntKind.i64.wrap (numV xs st 8 : Int) = z := ⟨_, rfl⟩
  rw [hz]
  have HZ := Lib.hid hz
  clear hz
  have hl : Lies (((w.alloc (.cells cs 28)).alloc (.cells (toldE 0) 49)).alloc (.cells (toldE 0) 49)) w.heap.size cs 28 := ((Lies.new w cs 28).alloc _).alloc _
  have tx := TX.start w cs g h.lt.1
  have hb0 := TX.below w cs
  have HL := Lib.hid (And.intro h.lt.1 h.lt.2.1)
  have c0 := hl.cell 0 hV.what
  have c1 := hl.cell 1 hV.num
  have hpk := pick_any n0 (((w.alloc (.cells cs 28)).alloc (.cells (toldE 0) 49)).alloc (.cells (toldE 0) 49))
  rw [hd] at hpk
  have c0' := c0
  have c1' := c1
  have HP := Lib.hid (And.intro hpk (And.intro c0' c1'))
  unfold toldE at c0 c1
  clear hpk hd hl c0' c1' hV
  go_enter Tryz.func14, Tryz.ntmps14
  go_wp2_with fail
  refine HP.out.1.mono ?_
  rintro e w1 ⟨rfl, rfl⟩
  clear c0 c1
  have h0 := h.below hb0
  clear hb0 h
  generalize ((w.alloc (.cells cs 28)).alloc (.cells (toldE 0) 49)).alloc (.cells (toldE 0) 49) = W0 at tx HP h0 ⊢
  have c0 := HP.out.2.1
  have c1 := HP.out.2.2
  have HC := Lib.hid (ask56_st W0 g k xs c st h0)
  rw [HZ.out] at HC
  clear h0
  go_wp2_with fail
  refine HC.out.mono ?_
  rintro e w2 ⟨rfl, hr2, ho2⟩
  have tx2 := tx.call ho2
  have hsz := tx2.told.lt
  clear tx c0 c1 HP HC ho2
  obtain ⟨old, c2, o2⟩ := tx2.old 1 (by omega)
  have f2 := tx2.told.free 1
  have tx3 := tx2.put 1 (.int .u64 (IntKind.u64.wrap z)) rfl
  have hr3 := hr2.only (only_set (w.heap.size + 2) 1 w2 (.int .u64 (IntKind.u64.wrap z))) (by have := HL.out.1; omega) (by have := HL.out.2; omega)
  clear tx2 hr2
  go_wp2_with fail
  clear c2 f2 o2
  refine (left_rst _ g k xs c (numS xs st 8) hr3).mono ?_
  rintro e w4 ⟨rfl, hb4⟩
  have tx4 := tx3.call (only_below hb4)
  have hr4 := hr3.below hb4
  clear tx3 hr3 hb4
  obtain ⟨old, c2, o2⟩ := tx4.old 36 (by omega)
  have f2 := tx4.told.free 36
  have tx5 := tx4.put 36 (.int .i64 (leftV xs (numS xs st 8))) rfl
  have hr5 := hr4.only (only_set (w.heap.size + 2) 36 _ (.int .i64 (leftV xs (numS xs st 8)))) (by have := HL.out.1; omega) (by have := HL.out.2; omega)
  clear tx4 hr4
  go_wp2_with fail
  clear c2 f2 o2
  refine (err_rst _ g k xs c (numS xs st 8) hr5).mono ?_
  rintro e w6 ⟨rfl, rfl⟩
  have tx6 := tx5
  have hr6 := hr5
  clear tx5 hr5
  obtain ⟨old, c2, o2⟩ := tx6.old 37 (by omega)
  have f2 := tx6.told.free 37
  have tx7 := tx6.put 37 (.int .i64 (errV (numS xs st 8))) rfl
  have hr7 := hr6.only (only_set (w.heap.size + 2) 37 _ (.int .i64 (errV (numS xs st 8)))) (by have := HL.out.1; omega) (by have := HL.out.2; omega)
  clear tx6 hr6
  go_wp2_with fail
  clear c2 f2 o2
  refine (end_rst _ g k xs c (numS xs st 8) hr7).mono ?_
  rintro e w8 ⟨rfl, hb8⟩
  have tx8 := tx7.call (only_below hb8)
  have hr8 := hr7.below hb8
  clear tx7 hr7 hb8
  obtain ⟨old, c2, o2⟩ := tx8.old 38 (by omega)
  have f2 := tx8.told.free 38
  have tx9 := tx8.put 38 (.bool (endV xs (numS xs st 8))) rfl
  have hr9 := hr8.only (only_set (w.heap.size + 2) 38 _ (.bool (endV xs (numS xs st 8)))) (by have := HL.out.1; omega) (by have := HL.out.2; omega)
  clear tx8 hr8
  go_upto_region 25 with fail
  clear c2 f2 o2
  have HX := Lib.hid (And.intro tx9 hr9)
  have hi47 := size_47 tx9.sz
  have h47 := all_one tx9.one
  have hs47 : (toldE 0).size = (fin ((toldE 0).setIfInBounds 1 (.int .u64 (IntKind.u64.wrap z))) xs (numS xs st 8)).size := by show 39 = _; exact tx9.sz.symm
  clear tx9 hr9
  go_wp2_with (first
    | (refine wpList_load_row rfl 49 _ rfl (w.heap.size + 1 + 1) rfl 49 (fin ((toldE 0).setIfInBounds 1 (.int .u64 (IntKind.u64.wrap z))) xs (numS xs st 8)) (0, 0) _ HX.out.1.told Tryz.underlying49 rfl hi47 ?_)
    | (refine wpList_store_row rfl 49 _ _ rfl (w.heap.size + 1) (fin ((toldE 0).setIfInBounds 1 (.int .u64 (IntKind.u64.wrap z))) xs (numS xs st 8)) rfl rfl 49 (toldE 0) HX.out.1.back hi47 hs47 h47 ?_))
  refine bodyPost_ret (v := .agg (fin ((toldE 0).setIfInBounds 1 (.int .u64 (IntKind.u64.wrap z))) xs (numS xs st 8))) (results_cell_row (p := 4) (ty := 49) (by kernel_rfl) _ _ (w.heap.size + 1) 49 (fin ((toldE 0).setIfInBounds 1 (.int .u64 (IntKind.u64.wrap z))) xs (numS xs st 8)) (0, 0) _ rfl (HX.out.1.back.setRow _) Tryz.underlying49 rfl hi47) rfl ⟨rfl, ?_, only_row HX.out.1.only (by omega) _⟩
  exact HX.out.2.only (only_rows (w.heap.size + 1) _ _) (by have := HL.out.1; omega) (by have := HL.out.2; omega)
set_option maxRecDepth 100000 in
set_option maxHeartbeats 2000000 in
theorem tells_st5 (w : World) (g k : Nat) (xs : List UInt8) (c : Nat) (st : Option Nat) (cs : Array Value) (n0 n1 : Int) (n2 : Nat) (hs : List UInt8) (bv : Value) (s : ByteArray) (hV : PutV cs n0 n1 n2 hs bv s) (hd : n0 % 10 = 5) (h : RSt w g k xs c (st)) :
    Calls Tryz.prog 14 #[.pointer (some ⟨g, 0, none⟩), .agg cs] w fun e w' => e = .returned (.agg (fin (sets (toldE 0) 2 (B8 (hashV xs st)).toList) xs (numS xs st 32))) ∧ RSt w' g k xs c (numS xs st 32) ∧ Only g w w' none := by
  have hl : Lies (((w.alloc (.cells cs 28)).alloc (.cells (toldE 0) 49)).alloc (.cells (toldE 0) 49)) w.heap.size cs 28 := ((Lies.new w cs 28).alloc _).alloc _
  have tx := TX.start w cs g h.lt.1
  have hb0 := TX.below w cs
  have HL := Lib.hid (And.intro h.lt.1 h.lt.2.1)
  have c0 := hl.cell 0 hV.what
  have c1 := hl.cell 1 hV.num
  have hpk := pick_any n0 (((w.alloc (.cells cs 28)).alloc (.cells (toldE 0) 49)).alloc (.cells (toldE 0) 49))
  rw [hd] at hpk
  have c0' := c0
  have c1' := c1
  have HP := Lib.hid (And.intro hpk (And.intro c0' c1'))
  unfold toldE at c0 c1
  clear hpk hd hl c0' c1' hV
  go_enter Tryz.func14, Tryz.ntmps14
  go_wp2_with fail
  refine HP.out.1.mono ?_
  rintro e w1 ⟨rfl, rfl⟩
  clear c0 c1
  have h0 := h.below hb0
  clear hb0 h
  generalize ((w.alloc (.cells cs 28)).alloc (.cells (toldE 0) 49)).alloc (.cells (toldE 0) 49) = W0 at tx HP h0 ⊢
  have c0 := HP.out.2.1
  have c1 := HP.out.2.2
  have HC := Lib.hid (hash_rst W0 g k xs c st h0)
  clear h0
  go_wp2_with fail
  refine HC.out.mono ?_
  rintro e w2 ⟨rfl, hr2, ho2⟩
  have tx2 := tx.call ho2
  have hsz := tx2.told.lt
  clear tx c0 c1 HP HC ho2
  have hlen : (hashV xs st).length = 32 := hashV_len xs st
  have hth : w2.there (w.heap.size + 2) 2 (B8 (hashV xs st)).size := fun j hj => by
    rw [B8_size, hlen] at hj
    obtain ⟨old, e, _⟩ := tx2.old (2 + j) (by omega)
    exact ⟨by rw [e]; rfl, tx2.told.free (2 + j)⟩
  have HTH := Lib.hid hth
  have tx3 := tx2.puts 2 (B8 (hashV xs st)).toList (byts_one _)
  have hr3 := hr2.only (only_selfs (w.heap.size + 2) w2 (B8 (hashV xs st)).toList 2) (by have := HL.out.1; omega) (by have := HL.out.2; omega)
  have hi33 := b8_info _ hlen
  clear hth tx2 hr2 hlen
  go_wp2_with (refine wpList_store_mid rfl 25 _ _ rfl (w.heap.size + 1 + 1) 2 _ rfl rfl HTH.out hi33 (B8_one _) ?_)
  clear HTH hi33
  refine (left_rst _ g k xs c (numS xs st 32) hr3).mono ?_
  rintro e w4 ⟨rfl, hb4⟩
  have tx4 := tx3.call (only_below hb4)
  have hr4 := hr3.below hb4
  clear tx3 hr3 hb4
  obtain ⟨old, c2, o2⟩ := tx4.old 36 (by omega)
  have f2 := tx4.told.free 36
  have tx5 := tx4.put 36 (.int .i64 (leftV xs (numS xs st 32))) rfl
  have hr5 := hr4.only (only_set (w.heap.size + 2) 36 _ (.int .i64 (leftV xs (numS xs st 32)))) (by have := HL.out.1; omega) (by have := HL.out.2; omega)
  clear tx4 hr4
  go_wp2_with fail
  clear c2 f2 o2
  refine (err_rst _ g k xs c (numS xs st 32) hr5).mono ?_
  rintro e w6 ⟨rfl, rfl⟩
  have tx6 := tx5
  have hr6 := hr5
  clear tx5 hr5
  obtain ⟨old, c2, o2⟩ := tx6.old 37 (by omega)
  have f2 := tx6.told.free 37
  have tx7 := tx6.put 37 (.int .i64 (errV (numS xs st 32))) rfl
  have hr7 := hr6.only (only_set (w.heap.size + 2) 37 _ (.int .i64 (errV (numS xs st 32)))) (by have := HL.out.1; omega) (by have := HL.out.2; omega)
  clear tx6 hr6
  go_wp2_with fail
  clear c2 f2 o2
  refine (end_rst _ g k xs c (numS xs st 32) hr7).mono ?_
  rintro e w8 ⟨rfl, hb8⟩
  have tx8 := tx7.call (only_below hb8)
  have hr8 := hr7.below hb8
  clear tx7 hr7 hb8
  obtain ⟨old, c2, o2⟩ := tx8.old 38 (by omega)
  have f2 := tx8.told.free 38
  have tx9 := tx8.put 38 (.bool (endV xs (numS xs st 32))) rfl
  have hr9 := hr8.only (only_set (w.heap.size + 2) 38 _ (.bool (endV xs (numS xs st 32)))) (by have := HL.out.1; omega) (by have := HL.out.2; omega)
  clear tx8 hr8
  go_upto_region 25 with fail
  clear c2 f2 o2
  have HX := Lib.hid (And.intro tx9 hr9)
  have hi47 := size_47 tx9.sz
  have h47 := all_one tx9.one
  have hs47 : (toldE 0).size = (fin (sets (toldE 0) 2 (B8 (hashV xs st)).toList) xs (numS xs st 32)).size := by show 39 = _; exact tx9.sz.symm
  clear tx9 hr9
  go_wp2_with (first
    | (refine wpList_load_row rfl 49 _ rfl (w.heap.size + 1 + 1) rfl 49 (fin (sets (toldE 0) 2 (B8 (hashV xs st)).toList) xs (numS xs st 32)) (0, 0) _ HX.out.1.told Tryz.underlying49 rfl hi47 ?_)
    | (refine wpList_store_row rfl 49 _ _ rfl (w.heap.size + 1) (fin (sets (toldE 0) 2 (B8 (hashV xs st)).toList) xs (numS xs st 32)) rfl rfl 49 (toldE 0) HX.out.1.back hi47 hs47 h47 ?_))
  refine bodyPost_ret (v := .agg (fin (sets (toldE 0) 2 (B8 (hashV xs st)).toList) xs (numS xs st 32))) (results_cell_row (p := 4) (ty := 49) (by kernel_rfl) _ _ (w.heap.size + 1) 49 (fin (sets (toldE 0) 2 (B8 (hashV xs st)).toList) xs (numS xs st 32)) (0, 0) _ rfl (HX.out.1.back.setRow _) Tryz.underlying49 rfl hi47) rfl ⟨rfl, ?_, only_row HX.out.1.only (by omega) _⟩
  exact HX.out.2.only (only_rows (w.heap.size + 1) _ _) (by have := HL.out.1; omega) (by have := HL.out.2; omega)
set_option maxRecDepth 100000 in
set_option maxHeartbeats 2000000 in
theorem tells_st6 (w : World) (g k : Nat) (xs : List UInt8) (c : Nat) (st : Option Nat) (cs : Array Value) (n0 n1 : Int) (n2 : Nat) (hs : List UInt8) (bv : Value) (s : ByteArray) (hV : PutV cs n0 n1 n2 hs bv s) (hd : n0 % 10 = 6) (h : RSt w g k xs c (st)) :
    Calls Tryz.prog 14 #[.pointer (some ⟨g, 0, none⟩), .agg cs] w fun e w' => e = .returned (.agg (fin ((toldE 0).setIfInBounds 34 (.string ⟨(rawV xs st n1).toArray⟩)) xs (rawS xs st n1))) ∧ RSt w' g k xs c (rawS xs st n1) ∧ Only g w w' none := by
  have hl : Lies (((w.alloc (.cells cs 28)).alloc (.cells (toldE 0) 49)).alloc (.cells (toldE 0) 49)) w.heap.size cs 28 := ((Lies.new w cs 28).alloc _).alloc _
  have tx := TX.start w cs g h.lt.1
  have hb0 := TX.below w cs
  have HL := Lib.hid (And.intro h.lt.1 h.lt.2.1)
  have c0 := hl.cell 0 hV.what
  have c1 := hl.cell 1 hV.num
  have hpk := pick_any n0 (((w.alloc (.cells cs 28)).alloc (.cells (toldE 0) 49)).alloc (.cells (toldE 0) 49))
  rw [hd] at hpk
  have c0' := c0
  have c1' := c1
  have HP := Lib.hid (And.intro hpk (And.intro c0' c1'))
  unfold toldE at c0 c1
  clear hpk hd hl c0' c1' hV
  go_enter Tryz.func14, Tryz.ntmps14
  go_wp2_with fail
  refine HP.out.1.mono ?_
  rintro e w1 ⟨rfl, rfl⟩
  clear c0 c1
  have h0 := h.below hb0
  clear hb0 h
  generalize ((w.alloc (.cells cs 28)).alloc (.cells (toldE 0) 49)).alloc (.cells (toldE 0) 49) = W0 at tx HP h0 ⊢
  have c0 := HP.out.2.1
  have c1 := HP.out.2.2
  have HC := Lib.hid (raw_rst W0 g k xs c st n1 h0)
  clear h0
  go_wp2_with fail
  refine HC.out.mono ?_
  rintro e w2 ⟨v, rfl, hown, hr2, ho2⟩
  have htx := own_text hown
  clear hown
  have tx2 := tx.call ho2
  have hsz := tx2.told.lt
  clear tx c0 c1 HP HC ho2
  obtain ⟨old, c2, o2⟩ := tx2.old 34 (by omega)
  have f2 := tx2.told.free 34
  have tx3 := tx2.put 34 (.string ⟨(rawV xs st n1).toArray⟩) rfl
  have hr3 := hr2.only (only_set (w.heap.size + 2) 34 w2 (.string ⟨(rawV xs st n1).toArray⟩)) (by have := HL.out.1; omega) (by have := HL.out.2; omega)
  clear tx2 hr2
  go_wp2_with fail
  clear c2 f2 o2
  refine (left_rst _ g k xs c (rawS xs st n1) hr3).mono ?_
  rintro e w4 ⟨rfl, hb4⟩
  have tx4 := tx3.call (only_below hb4)
  have hr4 := hr3.below hb4
  clear tx3 hr3 hb4
  obtain ⟨old, c2, o2⟩ := tx4.old 36 (by omega)
  have f2 := tx4.told.free 36
  have tx5 := tx4.put 36 (.int .i64 (leftV xs (rawS xs st n1))) rfl
  have hr5 := hr4.only (only_set (w.heap.size + 2) 36 _ (.int .i64 (leftV xs (rawS xs st n1)))) (by have := HL.out.1; omega) (by have := HL.out.2; omega)
  clear tx4 hr4
  go_wp2_with fail
  clear c2 f2 o2
  refine (err_rst _ g k xs c (rawS xs st n1) hr5).mono ?_
  rintro e w6 ⟨rfl, rfl⟩
  have tx6 := tx5
  have hr6 := hr5
  clear tx5 hr5
  obtain ⟨old, c2, o2⟩ := tx6.old 37 (by omega)
  have f2 := tx6.told.free 37
  have tx7 := tx6.put 37 (.int .i64 (errV (rawS xs st n1))) rfl
  have hr7 := hr6.only (only_set (w.heap.size + 2) 37 _ (.int .i64 (errV (rawS xs st n1)))) (by have := HL.out.1; omega) (by have := HL.out.2; omega)
  clear tx6 hr6
  go_wp2_with fail
  clear c2 f2 o2
  refine (end_rst _ g k xs c (rawS xs st n1) hr7).mono ?_
  rintro e w8 ⟨rfl, hb8⟩
  have tx8 := tx7.call (only_below hb8)
  have hr8 := hr7.below hb8
  clear tx7 hr7 hb8
  obtain ⟨old, c2, o2⟩ := tx8.old 38 (by omega)
  have f2 := tx8.told.free 38
  have tx9 := tx8.put 38 (.bool (endV xs (rawS xs st n1))) rfl
  have hr9 := hr8.only (only_set (w.heap.size + 2) 38 _ (.bool (endV xs (rawS xs st n1)))) (by have := HL.out.1; omega) (by have := HL.out.2; omega)
  clear tx8 hr8
  go_upto_region 25 with fail
  clear c2 f2 o2
  have HX := Lib.hid (And.intro tx9 hr9)
  have hi47 := size_47 tx9.sz
  have h47 := all_one tx9.one
  have hs47 : (toldE 0).size = (fin ((toldE 0).setIfInBounds 34 (.string ⟨(rawV xs st n1).toArray⟩)) xs (rawS xs st n1)).size := by show 39 = _; exact tx9.sz.symm
  clear tx9 hr9
  go_wp2_with (first
    | (refine wpList_load_row rfl 49 _ rfl (w.heap.size + 1 + 1) rfl 49 (fin ((toldE 0).setIfInBounds 34 (.string ⟨(rawV xs st n1).toArray⟩)) xs (rawS xs st n1)) (0, 0) _ HX.out.1.told Tryz.underlying49 rfl hi47 ?_)
    | (refine wpList_store_row rfl 49 _ _ rfl (w.heap.size + 1) (fin ((toldE 0).setIfInBounds 34 (.string ⟨(rawV xs st n1).toArray⟩)) xs (rawS xs st n1)) rfl rfl 49 (toldE 0) HX.out.1.back hi47 hs47 h47 ?_))
  refine bodyPost_ret (v := .agg (fin ((toldE 0).setIfInBounds 34 (.string ⟨(rawV xs st n1).toArray⟩)) xs (rawS xs st n1))) (results_cell_row (p := 4) (ty := 49) (by kernel_rfl) _ _ (w.heap.size + 1) 49 (fin ((toldE 0).setIfInBounds 34 (.string ⟨(rawV xs st n1).toArray⟩)) xs (rawS xs st n1)) (0, 0) _ rfl (HX.out.1.back.setRow _) Tryz.underlying49 rfl hi47) rfl ⟨rfl, ?_, only_row HX.out.1.only (by omega) _⟩
  exact HX.out.2.only (only_rows (w.heap.size + 1) _ _) (by have := HL.out.1; omega) (by have := HL.out.2; omega)
set_option maxRecDepth 100000 in
set_option maxHeartbeats 2000000 in
theorem tells_st7 (w : World) (g k : Nat) (xs : List UInt8) (c : Nat) (st : Option Nat) (cs : Array Value) (n0 n1 : Int) (n2 : Nat) (hs : List UInt8) (bv : Value) (s : ByteArray) (hV : PutV cs n0 n1 n2 hs bv s) (hd : n0 % 10 = 7) (h : RSt w g k xs c (st)) :
    Calls Tryz.prog 14 #[.pointer (some ⟨g, 0, none⟩), .agg cs] w fun e w' => e = .returned (.agg (fin ((toldE 0).setIfInBounds 34 (.string ⟨(textV xs st n1).toArray⟩)) xs (textS xs st n1))) ∧ RSt w' g k xs c (textS xs st n1) ∧ Only g w w' none := by
  have hl : Lies (((w.alloc (.cells cs 28)).alloc (.cells (toldE 0) 49)).alloc (.cells (toldE 0) 49)) w.heap.size cs 28 := ((Lies.new w cs 28).alloc _).alloc _
  have tx := TX.start w cs g h.lt.1
  have hb0 := TX.below w cs
  have HL := Lib.hid (And.intro h.lt.1 h.lt.2.1)
  have c0 := hl.cell 0 hV.what
  have c1 := hl.cell 1 hV.num
  have hpk := pick_any n0 (((w.alloc (.cells cs 28)).alloc (.cells (toldE 0) 49)).alloc (.cells (toldE 0) 49))
  rw [hd] at hpk
  have c0' := c0
  have c1' := c1
  have HP := Lib.hid (And.intro hpk (And.intro c0' c1'))
  unfold toldE at c0 c1
  clear hpk hd hl c0' c1' hV
  go_enter Tryz.func14, Tryz.ntmps14
  go_wp2_with fail
  refine HP.out.1.mono ?_
  rintro e w1 ⟨rfl, rfl⟩
  clear c0 c1
  have h0 := h.below hb0
  clear hb0 h
  generalize ((w.alloc (.cells cs 28)).alloc (.cells (toldE 0) 49)).alloc (.cells (toldE 0) 49) = W0 at tx HP h0 ⊢
  have c0 := HP.out.2.1
  have c1 := HP.out.2.2
  have HC := Lib.hid (text_rst W0 g k xs c st n1 h0)
  clear h0
  go_wp2_with fail
  refine HC.out.mono ?_
  rintro e w2 ⟨rfl, hr2, ho2⟩
  have tx2 := tx.call ho2
  have hsz := tx2.told.lt
  clear tx c0 c1 HP HC ho2
  obtain ⟨old, c2, o2⟩ := tx2.old 34 (by omega)
  have f2 := tx2.told.free 34
  have tx3 := tx2.put 34 (.string ⟨(textV xs st n1).toArray⟩) rfl
  have hr3 := hr2.only (only_set (w.heap.size + 2) 34 w2 (.string ⟨(textV xs st n1).toArray⟩)) (by have := HL.out.1; omega) (by have := HL.out.2; omega)
  clear tx2 hr2
  go_wp2_with fail
  clear c2 f2 o2
  refine (left_rst _ g k xs c (textS xs st n1) hr3).mono ?_
  rintro e w4 ⟨rfl, hb4⟩
  have tx4 := tx3.call (only_below hb4)
  have hr4 := hr3.below hb4
  clear tx3 hr3 hb4
  obtain ⟨old, c2, o2⟩ := tx4.old 36 (by omega)
  have f2 := tx4.told.free 36
  have tx5 := tx4.put 36 (.int .i64 (leftV xs (textS xs st n1))) rfl
  have hr5 := hr4.only (only_set (w.heap.size + 2) 36 _ (.int .i64 (leftV xs (textS xs st n1)))) (by have := HL.out.1; omega) (by have := HL.out.2; omega)
  clear tx4 hr4
  go_wp2_with fail
  clear c2 f2 o2
  refine (err_rst _ g k xs c (textS xs st n1) hr5).mono ?_
  rintro e w6 ⟨rfl, rfl⟩
  have tx6 := tx5
  have hr6 := hr5
  clear tx5 hr5
  obtain ⟨old, c2, o2⟩ := tx6.old 37 (by omega)
  have f2 := tx6.told.free 37
  have tx7 := tx6.put 37 (.int .i64 (errV (textS xs st n1))) rfl
  have hr7 := hr6.only (only_set (w.heap.size + 2) 37 _ (.int .i64 (errV (textS xs st n1)))) (by have := HL.out.1; omega) (by have := HL.out.2; omega)
  clear tx6 hr6
  go_wp2_with fail
  clear c2 f2 o2
  refine (end_rst _ g k xs c (textS xs st n1) hr7).mono ?_
  rintro e w8 ⟨rfl, hb8⟩
  have tx8 := tx7.call (only_below hb8)
  have hr8 := hr7.below hb8
  clear tx7 hr7 hb8
  obtain ⟨old, c2, o2⟩ := tx8.old 38 (by omega)
  have f2 := tx8.told.free 38
  have tx9 := tx8.put 38 (.bool (endV xs (textS xs st n1))) rfl
  have hr9 := hr8.only (only_set (w.heap.size + 2) 38 _ (.bool (endV xs (textS xs st n1)))) (by have := HL.out.1; omega) (by have := HL.out.2; omega)
  clear tx8 hr8
  go_upto_region 25 with fail
  clear c2 f2 o2
  have HX := Lib.hid (And.intro tx9 hr9)
  have hi47 := size_47 tx9.sz
  have h47 := all_one tx9.one
  have hs47 : (toldE 0).size = (fin ((toldE 0).setIfInBounds 34 (.string ⟨(textV xs st n1).toArray⟩)) xs (textS xs st n1)).size := by show 39 = _; exact tx9.sz.symm
  clear tx9 hr9
  go_wp2_with (first
    | (refine wpList_load_row rfl 49 _ rfl (w.heap.size + 1 + 1) rfl 49 (fin ((toldE 0).setIfInBounds 34 (.string ⟨(textV xs st n1).toArray⟩)) xs (textS xs st n1)) (0, 0) _ HX.out.1.told Tryz.underlying49 rfl hi47 ?_)
    | (refine wpList_store_row rfl 49 _ _ rfl (w.heap.size + 1) (fin ((toldE 0).setIfInBounds 34 (.string ⟨(textV xs st n1).toArray⟩)) xs (textS xs st n1)) rfl rfl 49 (toldE 0) HX.out.1.back hi47 hs47 h47 ?_))
  refine bodyPost_ret (v := .agg (fin ((toldE 0).setIfInBounds 34 (.string ⟨(textV xs st n1).toArray⟩)) xs (textS xs st n1))) (results_cell_row (p := 4) (ty := 49) (by kernel_rfl) _ _ (w.heap.size + 1) 49 (fin ((toldE 0).setIfInBounds 34 (.string ⟨(textV xs st n1).toArray⟩)) xs (textS xs st n1)) (0, 0) _ rfl (HX.out.1.back.setRow _) Tryz.underlying49 rfl hi47) rfl ⟨rfl, ?_, only_row HX.out.1.only (by omega) _⟩
  exact HX.out.2.only (only_rows (w.heap.size + 1) _ _) (by have := HL.out.1; omega) (by have := HL.out.2; omega)
set_option maxRecDepth 100000 in
set_option maxHeartbeats 2000000 in
theorem tells_st8 (w : World) (g k : Nat) (xs : List UInt8) (c : Nat) (st : Option Nat) (cs : Array Value) (n0 n1 : Int) (n2 : Nat) (hs : List UInt8) (bv : Value) (s : ByteArray) (hV : PutV cs n0 n1 n2 hs bv s) (hd : n0 % 10 = 8) (h : RSt w g k xs c (st)) :
    Calls Tryz.prog 14 #[.pointer (some ⟨g, 0, none⟩), .agg cs] w fun e w' => e = .returned (.agg (fin ((toldE 0).setIfInBounds 35 (.bool (flagV xs st))) xs (flagS xs st))) ∧ RSt w' g k xs c (flagS xs st) ∧ Only g w w' none := by
  have hl : Lies (((w.alloc (.cells cs 28)).alloc (.cells (toldE 0) 49)).alloc (.cells (toldE 0) 49)) w.heap.size cs 28 := ((Lies.new w cs 28).alloc _).alloc _
  have tx := TX.start w cs g h.lt.1
  have hb0 := TX.below w cs
  have HL := Lib.hid (And.intro h.lt.1 h.lt.2.1)
  have c0 := hl.cell 0 hV.what
  have c1 := hl.cell 1 hV.num
  have hpk := pick_any n0 (((w.alloc (.cells cs 28)).alloc (.cells (toldE 0) 49)).alloc (.cells (toldE 0) 49))
  rw [hd] at hpk
  have c0' := c0
  have c1' := c1
  have HP := Lib.hid (And.intro hpk (And.intro c0' c1'))
  unfold toldE at c0 c1
  clear hpk hd hl c0' c1' hV
  go_enter Tryz.func14, Tryz.ntmps14
  go_wp2_with fail
  refine HP.out.1.mono ?_
  rintro e w1 ⟨rfl, rfl⟩
  clear c0 c1
  have h0 := h.below hb0
  clear hb0 h
  generalize ((w.alloc (.cells cs 28)).alloc (.cells (toldE 0) 49)).alloc (.cells (toldE 0) 49) = W0 at tx HP h0 ⊢
  have c0 := HP.out.2.1
  have c1 := HP.out.2.2
  have HC := Lib.hid (flag_rst W0 g k xs c st h0)
  clear h0
  go_wp2_with fail
  refine HC.out.mono ?_
  rintro e w2 ⟨rfl, hr2, ho2⟩
  have tx2 := tx.call ho2
  have hsz := tx2.told.lt
  clear tx c0 c1 HP HC ho2
  obtain ⟨old, c2, o2⟩ := tx2.old 35 (by omega)
  have f2 := tx2.told.free 35
  have tx3 := tx2.put 35 (.bool (flagV xs st)) rfl
  have hr3 := hr2.only (only_set (w.heap.size + 2) 35 w2 (.bool (flagV xs st))) (by have := HL.out.1; omega) (by have := HL.out.2; omega)
  clear tx2 hr2
  go_wp2_with fail
  clear c2 f2 o2
  refine (left_rst _ g k xs c (flagS xs st) hr3).mono ?_
  rintro e w4 ⟨rfl, hb4⟩
  have tx4 := tx3.call (only_below hb4)
  have hr4 := hr3.below hb4
  clear tx3 hr3 hb4
  obtain ⟨old, c2, o2⟩ := tx4.old 36 (by omega)
  have f2 := tx4.told.free 36
  have tx5 := tx4.put 36 (.int .i64 (leftV xs (flagS xs st))) rfl
  have hr5 := hr4.only (only_set (w.heap.size + 2) 36 _ (.int .i64 (leftV xs (flagS xs st)))) (by have := HL.out.1; omega) (by have := HL.out.2; omega)
  clear tx4 hr4
  go_wp2_with fail
  clear c2 f2 o2
  refine (err_rst _ g k xs c (flagS xs st) hr5).mono ?_
  rintro e w6 ⟨rfl, rfl⟩
  have tx6 := tx5
  have hr6 := hr5
  clear tx5 hr5
  obtain ⟨old, c2, o2⟩ := tx6.old 37 (by omega)
  have f2 := tx6.told.free 37
  have tx7 := tx6.put 37 (.int .i64 (errV (flagS xs st))) rfl
  have hr7 := hr6.only (only_set (w.heap.size + 2) 37 _ (.int .i64 (errV (flagS xs st)))) (by have := HL.out.1; omega) (by have := HL.out.2; omega)
  clear tx6 hr6
  go_wp2_with fail
  clear c2 f2 o2
  refine (end_rst _ g k xs c (flagS xs st) hr7).mono ?_
  rintro e w8 ⟨rfl, hb8⟩
  have tx8 := tx7.call (only_below hb8)
  have hr8 := hr7.below hb8
  clear tx7 hr7 hb8
  obtain ⟨old, c2, o2⟩ := tx8.old 38 (by omega)
  have f2 := tx8.told.free 38
  have tx9 := tx8.put 38 (.bool (endV xs (flagS xs st))) rfl
  have hr9 := hr8.only (only_set (w.heap.size + 2) 38 _ (.bool (endV xs (flagS xs st)))) (by have := HL.out.1; omega) (by have := HL.out.2; omega)
  clear tx8 hr8
  go_upto_region 25 with fail
  clear c2 f2 o2
  have HX := Lib.hid (And.intro tx9 hr9)
  have hi47 := size_47 tx9.sz
  have h47 := all_one tx9.one
  have hs47 : (toldE 0).size = (fin ((toldE 0).setIfInBounds 35 (.bool (flagV xs st))) xs (flagS xs st)).size := by show 39 = _; exact tx9.sz.symm
  clear tx9 hr9
  go_wp2_with (first
    | (refine wpList_load_row rfl 49 _ rfl (w.heap.size + 1 + 1) rfl 49 (fin ((toldE 0).setIfInBounds 35 (.bool (flagV xs st))) xs (flagS xs st)) (0, 0) _ HX.out.1.told Tryz.underlying49 rfl hi47 ?_)
    | (refine wpList_store_row rfl 49 _ _ rfl (w.heap.size + 1) (fin ((toldE 0).setIfInBounds 35 (.bool (flagV xs st))) xs (flagS xs st)) rfl rfl 49 (toldE 0) HX.out.1.back hi47 hs47 h47 ?_))
  refine bodyPost_ret (v := .agg (fin ((toldE 0).setIfInBounds 35 (.bool (flagV xs st))) xs (flagS xs st))) (results_cell_row (p := 4) (ty := 49) (by kernel_rfl) _ _ (w.heap.size + 1) 49 (fin ((toldE 0).setIfInBounds 35 (.bool (flagV xs st))) xs (flagS xs st)) (0, 0) _ rfl (HX.out.1.back.setRow _) Tryz.underlying49 rfl hi47) rfl ⟨rfl, ?_, only_row HX.out.1.only (by omega) _⟩
  exact HX.out.2.only (only_rows (w.heap.size + 1) _ _) (by have := HL.out.1; omega) (by have := HL.out.2; omega)
set_option maxRecDepth 100000 in
set_option maxHeartbeats 2000000 in
theorem tells_st9 (w : World) (g k : Nat) (xs : List UInt8) (c : Nat) (st : Option Nat) (cs : Array Value) (n0 n1 : Int) (n2 : Nat) (hs : List UInt8) (bv : Value) (s : ByteArray) (hV : PutV cs n0 n1 n2 hs bv s) (hd : n0 % 10 = 9) (h : RSt w g k xs c (st)) :
    Calls Tryz.prog 14 #[.pointer (some ⟨g, 0, none⟩), .agg cs] w fun e w' => e = .returned (.agg (fin ((toldE 0).setIfInBounds 0 (.int .i64 (countV xs st n1))) xs (countS xs st n1))) ∧ RSt w' g k xs c (countS xs st n1) ∧ Only g w w' none := by
  have hl : Lies (((w.alloc (.cells cs 28)).alloc (.cells (toldE 0) 49)).alloc (.cells (toldE 0) 49)) w.heap.size cs 28 := ((Lies.new w cs 28).alloc _).alloc _
  have tx := TX.start w cs g h.lt.1
  have hb0 := TX.below w cs
  have HL := Lib.hid (And.intro h.lt.1 h.lt.2.1)
  have c0 := hl.cell 0 hV.what
  have c1 := hl.cell 1 hV.num
  have hpk := pick_any n0 (((w.alloc (.cells cs 28)).alloc (.cells (toldE 0) 49)).alloc (.cells (toldE 0) 49))
  rw [hd] at hpk
  have c0' := c0
  have c1' := c1
  have HP := Lib.hid (And.intro hpk (And.intro c0' c1'))
  unfold toldE at c0 c1
  clear hpk hd hl c0' c1' hV
  go_enter Tryz.func14, Tryz.ntmps14
  go_wp2_with fail
  refine HP.out.1.mono ?_
  rintro e w1 ⟨rfl, rfl⟩
  clear c0 c1
  have h0 := h.below hb0
  clear hb0 h
  generalize ((w.alloc (.cells cs 28)).alloc (.cells (toldE 0) 49)).alloc (.cells (toldE 0) 49) = W0 at tx HP h0 ⊢
  have c0 := HP.out.2.1
  have c1 := HP.out.2.2
  have HC := Lib.hid (count_rst W0 g k xs c st n1 h0)
  clear h0
  go_wp2_with fail
  refine HC.out.mono ?_
  rintro e w2 ⟨rfl, hr2, ho2⟩
  have tx2 := tx.call ho2
  have hsz := tx2.told.lt
  clear tx c0 c1 HP HC ho2
  obtain ⟨old, c2, o2⟩ := tx2.old 0 (by omega)
  have f2 := tx2.told.free 0
  have tx3 := tx2.put 0 (.int .i64 (countV xs st n1)) rfl
  have hr3 := hr2.only (only_set (w.heap.size + 2) 0 w2 (.int .i64 (countV xs st n1))) (by have := HL.out.1; omega) (by have := HL.out.2; omega)
  clear tx2 hr2
  go_wp2_with fail
  clear c2 f2 o2
  refine (left_rst _ g k xs c (countS xs st n1) hr3).mono ?_
  rintro e w4 ⟨rfl, hb4⟩
  have tx4 := tx3.call (only_below hb4)
  have hr4 := hr3.below hb4
  clear tx3 hr3 hb4
  obtain ⟨old, c2, o2⟩ := tx4.old 36 (by omega)
  have f2 := tx4.told.free 36
  have tx5 := tx4.put 36 (.int .i64 (leftV xs (countS xs st n1))) rfl
  have hr5 := hr4.only (only_set (w.heap.size + 2) 36 _ (.int .i64 (leftV xs (countS xs st n1)))) (by have := HL.out.1; omega) (by have := HL.out.2; omega)
  clear tx4 hr4
  go_wp2_with fail
  clear c2 f2 o2
  refine (err_rst _ g k xs c (countS xs st n1) hr5).mono ?_
  rintro e w6 ⟨rfl, rfl⟩
  have tx6 := tx5
  have hr6 := hr5
  clear tx5 hr5
  obtain ⟨old, c2, o2⟩ := tx6.old 37 (by omega)
  have f2 := tx6.told.free 37
  have tx7 := tx6.put 37 (.int .i64 (errV (countS xs st n1))) rfl
  have hr7 := hr6.only (only_set (w.heap.size + 2) 37 _ (.int .i64 (errV (countS xs st n1)))) (by have := HL.out.1; omega) (by have := HL.out.2; omega)
  clear tx6 hr6
  go_wp2_with fail
  clear c2 f2 o2
  refine (end_rst _ g k xs c (countS xs st n1) hr7).mono ?_
  rintro e w8 ⟨rfl, hb8⟩
  have tx8 := tx7.call (only_below hb8)
  have hr8 := hr7.below hb8
  clear tx7 hr7 hb8
  obtain ⟨old, c2, o2⟩ := tx8.old 38 (by omega)
  have f2 := tx8.told.free 38
  have tx9 := tx8.put 38 (.bool (endV xs (countS xs st n1))) rfl
  have hr9 := hr8.only (only_set (w.heap.size + 2) 38 _ (.bool (endV xs (countS xs st n1)))) (by have := HL.out.1; omega) (by have := HL.out.2; omega)
  clear tx8 hr8
  go_upto_region 25 with fail
  clear c2 f2 o2
  have HX := Lib.hid (And.intro tx9 hr9)
  have hi47 := size_47 tx9.sz
  have h47 := all_one tx9.one
  have hs47 : (toldE 0).size = (fin ((toldE 0).setIfInBounds 0 (.int .i64 (countV xs st n1))) xs (countS xs st n1)).size := by show 39 = _; exact tx9.sz.symm
  clear tx9 hr9
  go_wp2_with (first
    | (refine wpList_load_row rfl 49 _ rfl (w.heap.size + 1 + 1) rfl 49 (fin ((toldE 0).setIfInBounds 0 (.int .i64 (countV xs st n1))) xs (countS xs st n1)) (0, 0) _ HX.out.1.told Tryz.underlying49 rfl hi47 ?_)
    | (refine wpList_store_row rfl 49 _ _ rfl (w.heap.size + 1) (fin ((toldE 0).setIfInBounds 0 (.int .i64 (countV xs st n1))) xs (countS xs st n1)) rfl rfl 49 (toldE 0) HX.out.1.back hi47 hs47 h47 ?_))
  refine bodyPost_ret (v := .agg (fin ((toldE 0).setIfInBounds 0 (.int .i64 (countV xs st n1))) xs (countS xs st n1))) (results_cell_row (p := 4) (ty := 49) (by kernel_rfl) _ _ (w.heap.size + 1) 49 (fin ((toldE 0).setIfInBounds 0 (.int .i64 (countV xs st n1))) xs (countS xs st n1)) (0, 0) _ rfl (HX.out.1.back.setRow _) Tryz.underlying49 rfl hi47) rfl ⟨rfl, ?_, only_row HX.out.1.only (by omega) _⟩
  exact HX.out.2.only (only_rows (w.heap.size + 1) _ _) (by have := HL.out.1; omega) (by have := HL.out.2; omega)
theorem tells_st (w : World) (g k : Nat) (xs : List UInt8) (c : Nat) (st : Option Nat) (cs : Array Value) (n0 n1 : Int) (n2 : Nat) (hs : List UInt8) (bv : Value) (s : ByteArray) (hV : PutV cs n0 n1 n2 hs bv s) (h : RSt w g k xs c (st)) :
    Calls Tryz.prog 14 #[.pointer (some ⟨g, 0, none⟩), .agg cs] w fun e w' => e = .returned (.agg (fin (askT xs st n0 n1) xs (askS xs st n0 n1))) ∧ RSt w' g k xs c (askS xs st n0 n1) ∧ Only g w w' none := by
  have hd : n0 % 10 = 0 ∨ n0 % 10 = 1 ∨ n0 % 10 = 2 ∨ n0 % 10 = 3 ∨ n0 % 10 = 4 ∨ n0 % 10 = 5 ∨ n0 % 10 = 6 ∨ n0 % 10 = 7 ∨ n0 % 10 = 8 ∨ n0 % 10 = 9 := by omega
  rcases hd with hd | hd | hd | hd | hd | hd | hd | hd | hd | hd
  · have := tells_st0 w g k xs c st cs n0 n1 n2 hs bv s hV hd h
    rwa [← show askT xs st n0 n1 = (toldE 0).setIfInBounds 0 (.int .i64 (numV xs st 1)) by simp [askT, hd], ← show askS xs st n0 n1 = numS xs st 1 by simp [askS, hd]] at this
  · have := tells_st1 w g k xs c st cs n0 n1 n2 hs bv s hV hd h
    rwa [← show askT xs st n0 n1 = (toldE 0).setIfInBounds 0 (.int .i64 (numV xs st 2)) by simp [askT, hd], ← show askS xs st n0 n1 = numS xs st 2 by simp [askS, hd]] at this
  · have := tells_st2 w g k xs c st cs n0 n1 n2 hs bv s hV hd h
    rwa [← show askT xs st n0 n1 = (toldE 0).setIfInBounds 0 (.int .i64 (numV xs st 4)) by simp [askT, hd], ← show askS xs st n0 n1 = numS xs st 4 by simp [askS, hd]] at this
  · have := tells_st3 w g k xs c st cs n0 n1 n2 hs bv s hV hd h
    rwa [← show askT xs st n0 n1 = (toldE 0).setIfInBounds 1 (.int .u64 (numV xs st 8)) by simp [askT, hd], ← show askS xs st n0 n1 = numS xs st 8 by simp [askS, hd]] at this
  · have := tells_st4 w g k xs c st cs n0 n1 n2 hs bv s hV hd h
    rwa [← show askT xs st n0 n1 = (toldE 0).setIfInBounds 1 (.int .u64 (IntKind.u64.wrap (IntKind.i64.wrap (numV xs st 8)))) by simp [askT, hd], ← show askS xs st n0 n1 = numS xs st 8 by simp [askS, hd]] at this
  · have := tells_st5 w g k xs c st cs n0 n1 n2 hs bv s hV hd h
    rwa [← show askT xs st n0 n1 = sets (toldE 0) 2 (B8 (hashV xs st)).toList by simp [askT, hd], ← show askS xs st n0 n1 = numS xs st 32 by simp [askS, hd]] at this
  · have := tells_st6 w g k xs c st cs n0 n1 n2 hs bv s hV hd h
    rwa [← show askT xs st n0 n1 = (toldE 0).setIfInBounds 34 (.string ⟨(rawV xs st n1).toArray⟩) by simp [askT, hd], ← show askS xs st n0 n1 = rawS xs st n1 by simp [askS, hd]] at this
  · have := tells_st7 w g k xs c st cs n0 n1 n2 hs bv s hV hd h
    rwa [← show askT xs st n0 n1 = (toldE 0).setIfInBounds 34 (.string ⟨(textV xs st n1).toArray⟩) by simp [askT, hd], ← show askS xs st n0 n1 = textS xs st n1 by simp [askS, hd]] at this
  · have := tells_st8 w g k xs c st cs n0 n1 n2 hs bv s hV hd h
    rwa [← show askT xs st n0 n1 = (toldE 0).setIfInBounds 35 (.bool (flagV xs st)) by simp [askT, hd], ← show askS xs st n0 n1 = flagS xs st by simp [askS, hd]] at this
  · have := tells_st9 w g k xs c st cs n0 n1 n2 hs bv s hV hd h
    rwa [← show askT xs st n0 n1 = (toldE 0).setIfInBounds 0 (.int .i64 (countV xs st n1)) by simp [askT, hd], ← show askS xs st n0 n1 = countS xs st n1 by simp [askS, hd]] at this
end Go.Proofs.YtjbjagdpemnhiaaGreat
