/-
  put: any call of a writer that takes nothing turns nothing that is there.
-/
import Derived.Test.YtjbjagdpemnhiaaGreatRNil
import Derived.Deep.WholeRow
import Derived.Deep.MidRow
namespace Go.Proofs.YtjbjagdpemnhiaaGreat
open Go.RowKit

set_option maxRecDepth 100000 in
theorem hash_idle (w : World) (p : Option Addr) (hs : Array Value) (h : Idle w p) : Calls Tryz.prog 30 #[.pointer p, .agg hs] w fun e w' => e = .returned (.tuple #[]) ∧ Below w.heap.size w w' := by
  have hb : Below w.heap.size w (w.alloc (.cells hs 25)) := (Below.refl _ _).alloc (Nat.le_refl _) _
  have hr := fun v => raw_idle _ p v (h.below hb)
  have HR := Lib.hid hr
  have HB := Lib.hid hb
  clear hr hb h
  go_enter Tryz.func30, Tryz.ntmps30
  go_wp2_with fail
  refine (HR.out _).mono ?_
  rintro e w1 ⟨rfl, rfl⟩
  go_wp2_with fail
  go_end0
  exact ⟨rfl, HB.out⟩
/-- What a call's parts are, cell by cell. -/
structure PutC (cs : Array Value) : Prop where
  size : cs.size = 37
  what : ∃ n : Int, cs[0]? = some (.int .i64 n)
  num : ∃ n : Int, cs[1]? = some (.int .i64 n)
  wide : ∃ n : Int, cs[2]? = some (.int .u64 n)
  raw : ∃ a l c, cs[35]? = some (.slice a l c)
  text : ∃ s, cs[36]? = some (.string s)
theorem range_of {w : World} {cs : Array Value} (_hsz : cs.size = 37) : (w.alloc (.cells cs 28)).rangeAt w.heap.size 3 ((cs.toList.drop 3).take 32) := by
  intro j v hj
  have hl := Lies.new w cs 28
  refine hl.cell (3 + j) ?_
  have hjl := (List.getElem?_eq_some_iff.1 hj).1
  rw [List.length_take, List.length_drop, Array.length_toList] at hjl
  rw [List.getElem?_take_of_lt (by omega), List.getElem?_drop, Array.getElem?_toList] at hj
  exact hj
set_option maxRecDepth 100000 in
theorem put_idle0 (w : World) (p : Option Addr) (cs : Array Value) (hc : PutC cs) (n0 : Int) (e0 : cs[0]? = some (.int .i64 n0)) (hd : n0 % 10 = 0) (h : Idle w p) : Calls Tryz.prog 9 #[.pointer p, .agg cs] w fun e w' => e = .returned (.tuple #[]) ∧ Below w.heap.size w w' := by
  have hb : Below w.heap.size w (w.alloc (.cells cs 28)) := (Below.refl _ _).alloc (Nat.le_refl _) _
  have hi := h.below hb
  have hl := Lies.new w cs 28
  obtain ⟨hsz, _, ⟨n1, e1⟩, ⟨n2, e2⟩, ⟨a, l, c, e35⟩, ⟨s, e36⟩⟩ := hc
  have c0 := hl.cell 0 e0
  have c1 := hl.cell 1 e1
  have c2 := hl.cell 2 e2
  have c35 := hl.cell 35 e35
  have c36 := hl.cell 36 e36
  have hpk := pick_any n0 (w.alloc (.cells cs 28))
  rw [hd] at hpk
  have HP := Lib.hid hpk
  have HI := Lib.hid hi
  have HB := Lib.hid hb
  clear e0 e1 e2 e35 e36 hi hb h hpk hd
  clear hl hsz
  go_enter Tryz.func9, Tryz.ntmps9
  go_wp2_with fail
  refine HP.out.mono ?_
  rintro e w1 ⟨rfl, rfl⟩
  go_wp2_with fail
  refine (u8_idle _ p _ HI.out).mono ?_
  rintro e w2 ⟨rfl, rfl⟩
  go_wp2_with fail
  go_end0
  exact ⟨rfl, HB.out⟩
set_option maxRecDepth 100000 in
theorem put_idle1 (w : World) (p : Option Addr) (cs : Array Value) (hc : PutC cs) (n0 : Int) (e0 : cs[0]? = some (.int .i64 n0)) (hd : n0 % 10 = 1) (h : Idle w p) : Calls Tryz.prog 9 #[.pointer p, .agg cs] w fun e w' => e = .returned (.tuple #[]) ∧ Below w.heap.size w w' := by
  have hb : Below w.heap.size w (w.alloc (.cells cs 28)) := (Below.refl _ _).alloc (Nat.le_refl _) _
  have hi := h.below hb
  have hl := Lies.new w cs 28
  obtain ⟨hsz, _, ⟨n1, e1⟩, ⟨n2, e2⟩, ⟨a, l, c, e35⟩, ⟨s, e36⟩⟩ := hc
  have c0 := hl.cell 0 e0
  have c1 := hl.cell 1 e1
  have c2 := hl.cell 2 e2
  have c35 := hl.cell 35 e35
  have c36 := hl.cell 36 e36
  have hpk := pick_any n0 (w.alloc (.cells cs 28))
  rw [hd] at hpk
  have HP := Lib.hid hpk
  have HI := Lib.hid hi
  have HB := Lib.hid hb
  clear e0 e1 e2 e35 e36 hi hb h hpk hd
  clear hl hsz
  go_enter Tryz.func9, Tryz.ntmps9
  go_wp2_with fail
  refine HP.out.mono ?_
  rintro e w1 ⟨rfl, rfl⟩
  go_wp2_with fail
  refine (u16_idle _ p _ HI.out).mono ?_
  rintro e w2 ⟨rfl, rfl⟩
  go_wp2_with fail
  go_end0
  exact ⟨rfl, HB.out⟩
set_option maxRecDepth 100000 in
theorem put_idle2 (w : World) (p : Option Addr) (cs : Array Value) (hc : PutC cs) (n0 : Int) (e0 : cs[0]? = some (.int .i64 n0)) (hd : n0 % 10 = 2) (h : Idle w p) : Calls Tryz.prog 9 #[.pointer p, .agg cs] w fun e w' => e = .returned (.tuple #[]) ∧ Below w.heap.size w w' := by
  have hb : Below w.heap.size w (w.alloc (.cells cs 28)) := (Below.refl _ _).alloc (Nat.le_refl _) _
  have hi := h.below hb
  have hl := Lies.new w cs 28
  obtain ⟨hsz, _, ⟨n1, e1⟩, ⟨n2, e2⟩, ⟨a, l, c, e35⟩, ⟨s, e36⟩⟩ := hc
  have c0 := hl.cell 0 e0
  have c1 := hl.cell 1 e1
  have c2 := hl.cell 2 e2
  have c35 := hl.cell 35 e35
  have c36 := hl.cell 36 e36
  have hpk := pick_any n0 (w.alloc (.cells cs 28))
  rw [hd] at hpk
  have HP := Lib.hid hpk
  have HI := Lib.hid hi
  have HB := Lib.hid hb
  clear e0 e1 e2 e35 e36 hi hb h hpk hd
  clear hl hsz
  go_enter Tryz.func9, Tryz.ntmps9
  go_wp2_with fail
  refine HP.out.mono ?_
  rintro e w1 ⟨rfl, rfl⟩
  go_wp2_with fail
  refine (u32_idle _ p _ HI.out).mono ?_
  rintro e w2 ⟨rfl, rfl⟩
  go_wp2_with fail
  go_end0
  exact ⟨rfl, HB.out⟩
set_option maxRecDepth 100000 in
theorem put_idle3 (w : World) (p : Option Addr) (cs : Array Value) (hc : PutC cs) (n0 : Int) (e0 : cs[0]? = some (.int .i64 n0)) (hd : n0 % 10 = 3) (h : Idle w p) : Calls Tryz.prog 9 #[.pointer p, .agg cs] w fun e w' => e = .returned (.tuple #[]) ∧ Below w.heap.size w w' := by
  have hb : Below w.heap.size w (w.alloc (.cells cs 28)) := (Below.refl _ _).alloc (Nat.le_refl _) _
  have hi := h.below hb
  have hl := Lies.new w cs 28
  obtain ⟨hsz, _, ⟨n1, e1⟩, ⟨n2, e2⟩, ⟨a, l, c, e35⟩, ⟨s, e36⟩⟩ := hc
  have c0 := hl.cell 0 e0
  have c1 := hl.cell 1 e1
  have c2 := hl.cell 2 e2
  have c35 := hl.cell 35 e35
  have c36 := hl.cell 36 e36
  have hpk := pick_any n0 (w.alloc (.cells cs 28))
  rw [hd] at hpk
  have HP := Lib.hid hpk
  have HI := Lib.hid hi
  have HB := Lib.hid hb
  clear e0 e1 e2 e35 e36 hi hb h hpk hd
  clear hl hsz
  go_enter Tryz.func9, Tryz.ntmps9
  go_wp2_with fail
  refine HP.out.mono ?_
  rintro e w1 ⟨rfl, rfl⟩
  go_wp2_with fail
  refine (u64_idle _ p _ HI.out).mono ?_
  rintro e w2 ⟨rfl, rfl⟩
  go_wp2_with fail
  go_end0
  exact ⟨rfl, HB.out⟩
set_option maxRecDepth 100000 in
theorem put_idle4 (w : World) (p : Option Addr) (cs : Array Value) (hc : PutC cs) (n0 : Int) (e0 : cs[0]? = some (.int .i64 n0)) (hd : n0 % 10 = 4) (h : Idle w p) : Calls Tryz.prog 9 #[.pointer p, .agg cs] w fun e w' => e = .returned (.tuple #[]) ∧ Below w.heap.size w w' := by
  have hb : Below w.heap.size w (w.alloc (.cells cs 28)) := (Below.refl _ _).alloc (Nat.le_refl _) _
  have hi := h.below hb
  have hl := Lies.new w cs 28
  obtain ⟨hsz, _, ⟨n1, e1⟩, ⟨n2, e2⟩, ⟨a, l, c, e35⟩, ⟨s, e36⟩⟩ := hc
  have c0 := hl.cell 0 e0
  have c1 := hl.cell 1 e1
  have c2 := hl.cell 2 e2
  have c35 := hl.cell 35 e35
  have c36 := hl.cell 36 e36
  have hpk := pick_any n0 (w.alloc (.cells cs 28))
  rw [hd] at hpk
  have HP := Lib.hid hpk
  have HI := Lib.hid hi
  have HB := Lib.hid hb
  clear e0 e1 e2 e35 e36 hi hb h hpk hd
  clear hl hsz
  go_enter Tryz.func9, Tryz.ntmps9
  go_wp2_with fail
  refine HP.out.mono ?_
  rintro e w1 ⟨rfl, rfl⟩
  go_wp2_with fail
  refine (i64_idle _ p _ HI.out).mono ?_
  rintro e w2 ⟨rfl, rfl⟩
  go_wp2_with fail
  go_end0
  exact ⟨rfl, HB.out⟩
set_option maxRecDepth 100000 in
theorem put_idle5 (w : World) (p : Option Addr) (cs : Array Value) (hc : PutC cs) (n0 : Int) (e0 : cs[0]? = some (.int .i64 n0)) (hd : n0 % 10 = 5) (h : Idle w p) : Calls Tryz.prog 9 #[.pointer p, .agg cs] w fun e w' => e = .returned (.tuple #[]) ∧ Below w.heap.size w w' := by
  have hb : Below w.heap.size w (w.alloc (.cells cs 28)) := (Below.refl _ _).alloc (Nat.le_refl _) _
  have hi := h.below hb
  have hl := Lies.new w cs 28
  obtain ⟨hsz, _, ⟨n1, e1⟩, ⟨n2, e2⟩, ⟨a, l, c, e35⟩, ⟨s, e36⟩⟩ := hc
  have c0 := hl.cell 0 e0
  have c1 := hl.cell 1 e1
  have c2 := hl.cell 2 e2
  have c35 := hl.cell 35 e35
  have c36 := hl.cell 36 e36
  have hpk := pick_any n0 (w.alloc (.cells cs 28))
  rw [hd] at hpk
  have HP := Lib.hid hpk
  have HI := Lib.hid hi
  have HB := Lib.hid hb
  clear e0 e1 e2 e35 e36 hi hb h hpk hd
  have hrg := range_of (w := w) hsz
  have HR := Lib.hid hrg
  have size33 : (Tryz.prog.info? 25).map (·.size) = some ((cs.toList.drop 3).take 32).length := by
    rw [List.length_take, List.length_drop, Array.length_toList, hsz]; kernel_rfl
  clear hl hsz hrg
  go_enter Tryz.func9, Tryz.ntmps9
  go_wp2_with fail
  refine HP.out.mono ?_
  rintro e w1 ⟨rfl, rfl⟩
  go_wp2_with (refine wpList_load_mid rfl 25 _ rfl w.heap.size 3 rfl ((cs.toList.drop 3).take 32) (.array 32 5) HR.out Tryz.underlying25 rfl size33 ?_)
  refine (hash_idle _ p _ HI.out).mono ?_
  rintro e w2 ⟨rfl, hb2⟩
  have HB2 := Lib.hid hb2
  clear hb2
  go_wp2_with fail
  go_end0
  exact ⟨rfl, HB.out.trans (HB2.out.mono HB.out.size)⟩
set_option maxRecDepth 100000 in
theorem put_idle6 (w : World) (p : Option Addr) (cs : Array Value) (hc : PutC cs) (n0 : Int) (e0 : cs[0]? = some (.int .i64 n0)) (hd : n0 % 10 = 6) (h : Idle w p) : Calls Tryz.prog 9 #[.pointer p, .agg cs] w fun e w' => e = .returned (.tuple #[]) ∧ Below w.heap.size w w' := by
  have hb : Below w.heap.size w (w.alloc (.cells cs 28)) := (Below.refl _ _).alloc (Nat.le_refl _) _
  have hi := h.below hb
  have hl := Lies.new w cs 28
  obtain ⟨hsz, _, ⟨n1, e1⟩, ⟨n2, e2⟩, ⟨a, l, c, e35⟩, ⟨s, e36⟩⟩ := hc
  have c0 := hl.cell 0 e0
  have c1 := hl.cell 1 e1
  have c2 := hl.cell 2 e2
  have c35 := hl.cell 35 e35
  have c36 := hl.cell 36 e36
  have hpk := pick_any n0 (w.alloc (.cells cs 28))
  rw [hd] at hpk
  have HP := Lib.hid hpk
  have HI := Lib.hid hi
  have HB := Lib.hid hb
  clear e0 e1 e2 e35 e36 hi hb h hpk hd
  clear hl hsz
  go_enter Tryz.func9, Tryz.ntmps9
  go_wp2_with fail
  refine HP.out.mono ?_
  rintro e w1 ⟨rfl, rfl⟩
  go_wp2_with fail
  refine (raw_idle _ p _ HI.out).mono ?_
  rintro e w2 ⟨rfl, rfl⟩
  go_wp2_with fail
  go_end0
  exact ⟨rfl, HB.out⟩
set_option maxRecDepth 100000 in
theorem put_idle7 (w : World) (p : Option Addr) (cs : Array Value) (hc : PutC cs) (n0 : Int) (e0 : cs[0]? = some (.int .i64 n0)) (hd : n0 % 10 = 7) (h : Idle w p) : Calls Tryz.prog 9 #[.pointer p, .agg cs] w fun e w' => e = .returned (.tuple #[]) ∧ Below w.heap.size w w' := by
  have hb : Below w.heap.size w (w.alloc (.cells cs 28)) := (Below.refl _ _).alloc (Nat.le_refl _) _
  have hi := h.below hb
  have hl := Lies.new w cs 28
  obtain ⟨hsz, _, ⟨n1, e1⟩, ⟨n2, e2⟩, ⟨a, l, c, e35⟩, ⟨s, e36⟩⟩ := hc
  have c0 := hl.cell 0 e0
  have c1 := hl.cell 1 e1
  have c2 := hl.cell 2 e2
  have c35 := hl.cell 35 e35
  have c36 := hl.cell 36 e36
  have hpk := pick_any n0 (w.alloc (.cells cs 28))
  rw [hd] at hpk
  have HP := Lib.hid hpk
  have HI := Lib.hid hi
  have HB := Lib.hid hb
  clear e0 e1 e2 e35 e36 hi hb h hpk hd
  clear hl hsz
  go_enter Tryz.func9, Tryz.ntmps9
  go_wp2_with fail
  refine HP.out.mono ?_
  rintro e w1 ⟨rfl, rfl⟩
  go_wp2_with fail
  refine (text_idle _ p _ HI.out).mono ?_
  rintro e w2 ⟨rfl, rfl⟩
  go_wp2_with fail
  go_end0
  exact ⟨rfl, HB.out⟩
set_option maxRecDepth 100000 in
theorem put_idle8 (w : World) (p : Option Addr) (cs : Array Value) (hc : PutC cs) (n0 : Int) (e0 : cs[0]? = some (.int .i64 n0)) (hd : n0 % 10 = 8) (h : Idle w p) : Calls Tryz.prog 9 #[.pointer p, .agg cs] w fun e w' => e = .returned (.tuple #[]) ∧ Below w.heap.size w w' := by
  have hb : Below w.heap.size w (w.alloc (.cells cs 28)) := (Below.refl _ _).alloc (Nat.le_refl _) _
  have hi := h.below hb
  have hl := Lies.new w cs 28
  obtain ⟨hsz, _, ⟨n1, e1⟩, ⟨n2, e2⟩, ⟨a, l, c, e35⟩, ⟨s, e36⟩⟩ := hc
  have c0 := hl.cell 0 e0
  have c1 := hl.cell 1 e1
  have c2 := hl.cell 2 e2
  have c35 := hl.cell 35 e35
  have c36 := hl.cell 36 e36
  have hpk := pick_any n0 (w.alloc (.cells cs 28))
  rw [hd] at hpk
  have HP := Lib.hid hpk
  have HI := Lib.hid hi
  have HB := Lib.hid hb
  clear e0 e1 e2 e35 e36 hi hb h hpk hd
  clear hl hsz
  go_enter Tryz.func9, Tryz.ntmps9
  go_wp2_with fail
  refine HP.out.mono ?_
  rintro e w1 ⟨rfl, rfl⟩
  go_wp2_with fail
  refine (flag_idle _ p _ HI.out).mono ?_
  rintro e w2 ⟨rfl, rfl⟩
  go_wp2_with fail
  go_end0
  exact ⟨rfl, HB.out⟩
set_option maxRecDepth 100000 in
theorem put_idle9 (w : World) (p : Option Addr) (cs : Array Value) (hc : PutC cs) (n0 : Int) (e0 : cs[0]? = some (.int .i64 n0)) (hd : n0 % 10 = 9) (h : Idle w p) : Calls Tryz.prog 9 #[.pointer p, .agg cs] w fun e w' => e = .returned (.tuple #[]) ∧ Below w.heap.size w w' := by
  have hb : Below w.heap.size w (w.alloc (.cells cs 28)) := (Below.refl _ _).alloc (Nat.le_refl _) _
  have hi := h.below hb
  have hl := Lies.new w cs 28
  obtain ⟨hsz, _, ⟨n1, e1⟩, ⟨n2, e2⟩, ⟨a, l, c, e35⟩, ⟨s, e36⟩⟩ := hc
  have c0 := hl.cell 0 e0
  have c1 := hl.cell 1 e1
  have c2 := hl.cell 2 e2
  have c35 := hl.cell 35 e35
  have c36 := hl.cell 36 e36
  have hpk := pick_any n0 (w.alloc (.cells cs 28))
  rw [hd] at hpk
  have HP := Lib.hid hpk
  have HI := Lib.hid hi
  have HB := Lib.hid hb
  clear e0 e1 e2 e35 e36 hi hb h hpk hd
  clear hl hsz
  go_enter Tryz.func9, Tryz.ntmps9
  go_wp2_with fail
  refine HP.out.mono ?_
  rintro e w1 ⟨rfl, rfl⟩
  go_wp2_with fail
  all_goals
    try
      refine (spoil_idle _ p HI.out).mono ?_
      rintro e w2 ⟨rfl, rfl⟩
      go_wp2_with fail
    go_end0
    exact ⟨rfl, HB.out⟩
theorem put_idle (w : World) (p : Option Addr) (cs : Array Value) (hc : PutC cs) (h : Idle w p) : Calls Tryz.prog 9 #[.pointer p, .agg cs] w fun e w' => e = .returned (.tuple #[]) ∧ Below w.heap.size w w' := by
  obtain ⟨n0, e0⟩ := hc.what
  have hd : n0 % 10 = 0 ∨ n0 % 10 = 1 ∨ n0 % 10 = 2 ∨ n0 % 10 = 3 ∨ n0 % 10 = 4 ∨ n0 % 10 = 5 ∨ n0 % 10 = 6 ∨ n0 % 10 = 7 ∨ n0 % 10 = 8 ∨ n0 % 10 = 9 := by omega
  rcases hd with hd | hd | hd | hd | hd | hd | hd | hd | hd | hd
  · exact put_idle0 w p cs hc n0 e0 hd h
  · exact put_idle1 w p cs hc n0 e0 hd h
  · exact put_idle2 w p cs hc n0 e0 hd h
  · exact put_idle3 w p cs hc n0 e0 hd h
  · exact put_idle4 w p cs hc n0 e0 hd h
  · exact put_idle5 w p cs hc n0 e0 hd h
  · exact put_idle6 w p cs hc n0 e0 hd h
  · exact put_idle7 w p cs hc n0 e0 hd h
  · exact put_idle8 w p cs hc n0 e0 hd h
  · exact put_idle9 w p cs hc n0 e0 hd h
end Go.Proofs.YtjbjagdpemnhiaaGreat
