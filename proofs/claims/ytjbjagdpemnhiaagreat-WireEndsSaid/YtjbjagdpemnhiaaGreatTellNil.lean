/-
  tells: any ask of no reader, or of one that nobody made, tells nothing, and ErrNil.
-/
import Derived.Test.YtjbjagdpemnhiaaGreatHashNil
namespace Go.Proofs.YtjbjagdpemnhiaaGreat
open Go.RowKit

def toldE (n : Int) : Array Value := #[.int .i64 0, .int .u64 0, .int .u8 0, .int .u8 0, .int .u8 0, .int .u8 0, .int .u8 0, .int .u8 0, .int .u8 0, .int .u8 0, .int .u8 0, .int .u8 0, .int .u8 0, .int .u8 0, .int .u8 0, .int .u8 0, .int .u8 0, .int .u8 0, .int .u8 0, .int .u8 0, .int .u8 0, .int .u8 0, .int .u8 0, .int .u8 0, .int .u8 0, .int .u8 0, .int .u8 0, .int .u8 0, .int .u8 0, .int .u8 0, .int .u8 0, .int .u8 0, .int .u8 0, .int .u8 0, .string ⟨#[]⟩, .bool false, .int .i64 0, .int .i64 n, .bool false]
theorem size47 : (Tryz.prog.info? 49).map (·.size) = some 39 := by kernel_rfl
theorem info47 (n : Int) : (Tryz.prog.info? 49).map (·.size) = some (toldE n).size := size47
theorem told_one (n : Int) : (toldE n).all (·.oneCell') = true := by simp [toldE]; exact ⟨rfl, rfl, rfl, rfl, rfl, rfl, rfl, rfl⟩
theorem set_same {cs : Array Value} {j : Nat} {v : Value} (h : cs[j]? = some v) : cs.setIfInBounds j v = cs := by
  apply Array.ext_getElem?
  intro i
  rw [Array.getElem?_setIfInBounds]
  by_cases e : j = i
  · subst e
    have hl := (Array.getElem?_eq_some_iff.1 h).1
    rw [if_pos rfl, if_pos hl, h]
  · rw [if_neg e]
theorem Lies.same {w : World} {g : Nat} {cs : Array Value} {t : TypeId} (h : Lies w g cs t) (j : Nat) (v : Value) (hv : cs[j]? = some v) : Lies (w.setCell ⟨g, j, none⟩ v) g cs t := by
  have := h.set j v
  rwa [set_same hv] at this
theorem Lies.sames {w : World} {g : Nat} {cs : Array Value} {t : TypeId} (h : Lies w g cs t) : ∀ (vs : List Value) (o : Nat), (∀ j v, vs[j]? = some v → cs[o + j]? = some v) → Lies (w.setCells g o vs) g cs t := by
  intro vs
  induction vs generalizing w with
  | nil => intro o _; exact h
  | cons v vs ih =>
    intro o hv
    rw [World.setCells]
    refine ih (h.same o v (hv 0 v rfl)) (o + 1) (fun j u hu => ?_)
    have := hv (j + 1) u hu
    rwa [show o + 1 + j = o + (j + 1) by omega]
theorem Lies.outs {w : World} {g b : Nat} {cs : Array Value} {t : TypeId} (h : Lies w g cs t) (hne : g ≠ b) : ∀ (vs : List Value) (o : Nat), Lies (w.setCells b o vs) g cs t := by
  intro vs
  induction vs generalizing w with
  | nil => intro o; exact h
  | cons v vs ih =>
    intro o
    rw [World.setCells]
    exact ih (h.other _ v hne) (o + 1)
theorem below_cells {B : Nat} {a w : World} (h : Below B a w) {b : Nat} (hb : B ≤ b) : ∀ (vs : List Value) (o : Nat), Below B a (w.setCells b o vs) := by
  intro vs
  induction vs generalizing w with
  | nil => intro o; exact h
  | cons v vs ih =>
    intro o
    rw [World.setCells]
    exact ih (h.setCell hb v) (o + 1)
theorem z32_get (j : Nat) (hj : j < z32.size) : z32.toList[j]? = some (.int .u8 0) := by
  have h32 : z32.size = 32 := rfl
  rw [Array.getElem?_toList]
  have := B8_get (List.replicate 32 0) j (by simp; omega)
  unfold z32
  rw [this]
  congr 2
  have : (List.replicate 32 (0 : UInt8)).getD j 0 = 0 := by
    rw [List.getD_eq_getElem?_getD]
    simp only [List.getElem?_replicate]
    split <;> rfl
  rw [this]; rfl
theorem told_mid : ∀ j v, z32.toList[j]? = some v → (toldE 0)[2 + j]? = some v := by
  intro j v hv
  have hj : j < z32.size := by have := (List.getElem?_eq_some_iff.1 hv).1; rwa [Array.length_toList] at this
  have h32 : z32.size = 32 := rfl
  rw [z32_get j hj] at hv
  cases hv
  have hj2 : j = 0 ∨ j = 1 ∨ j = 2 ∨ j = 3 ∨ j = 4 ∨ j = 5 ∨ j = 6 ∨ j = 7 ∨ j = 8 ∨ j = 9 ∨ j = 10 ∨ j = 11 ∨ j = 12 ∨ j = 13 ∨ j = 14 ∨ j = 15 ∨ j = 16 ∨ j = 17 ∨ j = 18 ∨ j = 19 ∨ j = 20 ∨ j = 21 ∨ j = 22 ∨ j = 23 ∨ j = 24 ∨ j = 25 ∨ j = 26 ∨ j = 27 ∨ j = 28 ∨ j = 29 ∨ j = 30 ∨ j = 31 := by omega
  rcases hj2 with rfl | rfl | rfl | rfl | rfl | rfl | rfl | rfl | rfl | rfl | rfl | rfl | rfl | rfl | rfl | rfl | rfl | rfl | rfl | rfl | rfl | rfl | rfl | rfl | rfl | rfl | rfl | rfl | rfl | rfl | rfl | rfl
  all_goals rfl
/-- The world of tells while it fills what is told: in block B + 2; what it hands back lies in block B + 1. -/
structure TW (w W : World) (n : Int) : Prop where
  told : Lies W (w.heap.size + 2) (toldE n) 49
  back : Lies W (w.heap.size + 1) (toldE 0) 49
  below : Below w.heap.size w W
theorem TW.on {w W W' : World} {n : Int} (h : TW w W n) (hb : Below W.heap.size W W') : TW w W' n :=
  ⟨h.told.below hb h.told.lt, h.back.below hb h.back.lt, h.below.trans (hb.mono h.below.size)⟩
theorem TW.put {w W : World} {n : Int} (h : TW w W n) (j : Nat) (v : Value) (hv : (toldE n)[j]? = some v) : TW w (W.setCell ⟨w.heap.size + 2, j, none⟩ v) n :=
  ⟨h.told.same j v hv, h.back.other _ v (by show w.heap.size + 1 ≠ w.heap.size + 2; omega), h.below.setCell (by show w.heap.size ≤ w.heap.size + 2; omega) v⟩
theorem TW.err {w W : World} (h : TW w W 0) : TW w (W.setCell ⟨w.heap.size + 2, 37, none⟩ (.int .i64 1)) 1 :=
  ⟨h.told.set 37 _, h.back.other _ _ (by show w.heap.size + 1 ≠ w.heap.size + 2; omega), h.below.setCell (by show w.heap.size ≤ w.heap.size + 2; omega) _⟩
theorem TW.start (w : World) (cs : Array Value) : TW w (((w.alloc (.cells cs 28)).alloc (.cells (toldE 0) 49)).alloc (.cells (toldE 0) 49)) 0 := by
  refine ⟨?_, ?_, ((((Below.refl _ _).alloc (Nat.le_refl _) _).alloc (by simp) _).alloc (by simp; omega) _)⟩
  · have := Lies.new ((w.alloc (.cells cs 28)).alloc (.cells (toldE 0) 49)) (toldE 0) 49
    simpa using this
  · have := (Lies.new (w.alloc (.cells cs 28)) (toldE 0) 49).alloc (.cells (toldE 0) 49)
    simpa using this
set_option maxRecDepth 100000 in
set_option maxHeartbeats 1000000 in
theorem tells_nobody0 (w : World) (p : Option Addr) (cs : Array Value) (hc : PutC cs) (n0 : Int) (e0 : cs[0]? = some (.int .i64 n0)) (hd : n0 % 10 = 0) (h : Nobody w p) : Calls Tryz.prog 14 #[.pointer p, .agg cs] w fun e w' => e = .returned (.agg (toldE 1)) ∧ Below w.heap.size w w' := by
  have hl : Lies (((w.alloc (.cells cs 28)).alloc (.cells (toldE 0) 49)).alloc (.cells (toldE 0) 49)) w.heap.size cs 28 := ((Lies.new w cs 28).alloc _).alloc _
  have tw := TW.start w cs
  obtain ⟨hsz, _, ⟨n1, e1⟩, _⟩ := hc
  have c0 := hl.cell 0 e0
  have c1 := hl.cell 1 e1
  have hpk := pick_any n0 (((w.alloc (.cells cs 28)).alloc (.cells (toldE 0) 49)).alloc (.cells (toldE 0) 49))
  rw [hd] at hpk
  have c0' := c0
  have c1' := c1
  have HP := Lib.hid (And.intro hpk (And.intro c0' c1'))
  unfold toldE at c0 c1
  clear e0 e1 hpk hd hl c0' c1' hsz
  go_enter Tryz.func14, Tryz.ntmps14
  go_wp2_with fail
  refine HP.out.1.mono ?_
  rintro e w1 ⟨rfl, rfl⟩
  clear c0 c1
  generalize ((w.alloc (.cells cs 28)).alloc (.cells (toldE 0) 49)).alloc (.cells (toldE 0) 49) = W0 at tw HP ⊢
  have c0 := HP.out.2.1
  have c1 := HP.out.2.2
  go_wp2_with fail
  refine (ask25_idle _ p (h.below tw.below).idle).mono ?_
  rintro e w2 ⟨rfl, hb2⟩
  have tw2 := tw.on hb2
  clear hb2 tw c0 c1 HP
  have c2 := tw2.told.cell 0 (v := .int .i64 0) rfl
  have f2 := tw2.told.free 0
  have tw3 := tw2.put 0 (.int .i64 0) rfl
  go_wp2_with fail
  clear c2 f2 tw2
  have nb4 := h.below tw3.below
  refine (left_idle _ p nb4.idle).mono ?_
  rintro e w4 ⟨rfl, rfl⟩
  have c4 := tw3.told.cell 36 (v := .int .i64 0) rfl
  have f4 := tw3.told.free 36
  have tw4 := tw3.put 36 (.int .i64 0) rfl
  go_wp2_with fail
  clear c4 f4 tw3
  refine (err_nobody _ p (h.below tw4.below)).mono ?_
  rintro e w5 ⟨rfl, rfl⟩
  have c5 := tw4.told.cell 37 (v := .int .i64 0) rfl
  have f5 := tw4.told.free 37
  have tw5 := tw4.err
  go_wp2_with fail
  clear c5 f5 tw4
  refine (end_idle _ p (h.below tw5.below).idle).mono ?_
  rintro e w6 ⟨rfl, rfl⟩
  have c6 := tw5.told.cell 38 (v := .bool false) rfl
  have f6 := tw5.told.free 38
  have tw6 := tw5.put 38 (.bool false) rfl
  go_upto_region 25 with fail
  clear c6 f6 tw5
  have tw7 : TW w ((((w2.setCell ⟨w.heap.size + 2, 0, none⟩ (.int .i64 0)).setCell ⟨w.heap.size + 2, 36, none⟩ (.int .i64 0)).setCell ⟨w.heap.size + 2, 37, none⟩ (.int .i64 1)).setCell ⟨w.heap.size + 1 + 1, 38, none⟩ (.bool false)) 1 := tw6
  clear tw6
  generalize ((((w2.setCell ⟨w.heap.size + 2, 0, none⟩ (.int .i64 0)).setCell ⟨w.heap.size + 2, 36, none⟩ (.int .i64 0)).setCell ⟨w.heap.size + 2, 37, none⟩ (.int .i64 1)).setCell ⟨w.heap.size + 1 + 1, 38, none⟩ (.bool false)) = W6 at tw7 ⊢
  have H6 := Lib.hid tw7
  clear tw7 nb4
  go_wp2_with (first
    | (refine wpList_load_row rfl 49 _ rfl (w.heap.size + 1 + 1) rfl 49 (toldE 1) (0, 0) _ H6.out.told Tryz.underlying49 rfl (info47 1) ?_)
    | (refine wpList_store_row rfl 49 _ _ rfl (w.heap.size + 1) (toldE 1) rfl rfl 49 (toldE 0) H6.out.back (info47 1) rfl (told_one 1) ?_))
  refine bodyPost_ret (v := .agg (toldE 1)) (results_cell_row (p := 4) (ty := 49) (by kernel_rfl) _ _ (w.heap.size + 1) 49 (toldE 1) (0, 0) _ rfl (H6.out.back.setRow _) Tryz.underlying49 rfl (info47 1)) rfl ⟨rfl, below_setRow H6.out.below _ _ (by omega)⟩
set_option maxRecDepth 100000 in
set_option maxHeartbeats 1000000 in
theorem tells_nobody1 (w : World) (p : Option Addr) (cs : Array Value) (hc : PutC cs) (n0 : Int) (e0 : cs[0]? = some (.int .i64 n0)) (hd : n0 % 10 = 1) (h : Nobody w p) : Calls Tryz.prog 14 #[.pointer p, .agg cs] w fun e w' => e = .returned (.agg (toldE 1)) ∧ Below w.heap.size w w' := by
  have hl : Lies (((w.alloc (.cells cs 28)).alloc (.cells (toldE 0) 49)).alloc (.cells (toldE 0) 49)) w.heap.size cs 28 := ((Lies.new w cs 28).alloc _).alloc _
  have tw := TW.start w cs
  obtain ⟨hsz, _, ⟨n1, e1⟩, _⟩ := hc
  have c0 := hl.cell 0 e0
  have c1 := hl.cell 1 e1
  have hpk := pick_any n0 (((w.alloc (.cells cs 28)).alloc (.cells (toldE 0) 49)).alloc (.cells (toldE 0) 49))
  rw [hd] at hpk
  have c0' := c0
  have c1' := c1
  have HP := Lib.hid (And.intro hpk (And.intro c0' c1'))
  unfold toldE at c0 c1
  clear e0 e1 hpk hd hl c0' c1' hsz
  go_enter Tryz.func14, Tryz.ntmps14
  go_wp2_with fail
  refine HP.out.1.mono ?_
  rintro e w1 ⟨rfl, rfl⟩
  clear c0 c1
  generalize ((w.alloc (.cells cs 28)).alloc (.cells (toldE 0) 49)).alloc (.cells (toldE 0) 49) = W0 at tw HP ⊢
  have c0 := HP.out.2.1
  have c1 := HP.out.2.2
  go_wp2_with fail
  refine (ask53_idle _ p (h.below tw.below).idle).mono ?_
  rintro e w2 ⟨rfl, hb2⟩
  have tw2 := tw.on hb2
  clear hb2 tw c0 c1 HP
  have c2 := tw2.told.cell 0 (v := .int .i64 0) rfl
  have f2 := tw2.told.free 0
  have tw3 := tw2.put 0 (.int .i64 0) rfl
  go_wp2_with fail
  clear c2 f2 tw2
  have nb4 := h.below tw3.below
  refine (left_idle _ p nb4.idle).mono ?_
  rintro e w4 ⟨rfl, rfl⟩
  have c4 := tw3.told.cell 36 (v := .int .i64 0) rfl
  have f4 := tw3.told.free 36
  have tw4 := tw3.put 36 (.int .i64 0) rfl
  go_wp2_with fail
  clear c4 f4 tw3
  refine (err_nobody _ p (h.below tw4.below)).mono ?_
  rintro e w5 ⟨rfl, rfl⟩
  have c5 := tw4.told.cell 37 (v := .int .i64 0) rfl
  have f5 := tw4.told.free 37
  have tw5 := tw4.err
  go_wp2_with fail
  clear c5 f5 tw4
  refine (end_idle _ p (h.below tw5.below).idle).mono ?_
  rintro e w6 ⟨rfl, rfl⟩
  have c6 := tw5.told.cell 38 (v := .bool false) rfl
  have f6 := tw5.told.free 38
  have tw6 := tw5.put 38 (.bool false) rfl
  go_upto_region 25 with fail
  clear c6 f6 tw5
  have tw7 : TW w ((((w2.setCell ⟨w.heap.size + 2, 0, none⟩ (.int .i64 0)).setCell ⟨w.heap.size + 2, 36, none⟩ (.int .i64 0)).setCell ⟨w.heap.size + 2, 37, none⟩ (.int .i64 1)).setCell ⟨w.heap.size + 1 + 1, 38, none⟩ (.bool false)) 1 := tw6
  clear tw6
  generalize ((((w2.setCell ⟨w.heap.size + 2, 0, none⟩ (.int .i64 0)).setCell ⟨w.heap.size + 2, 36, none⟩ (.int .i64 0)).setCell ⟨w.heap.size + 2, 37, none⟩ (.int .i64 1)).setCell ⟨w.heap.size + 1 + 1, 38, none⟩ (.bool false)) = W6 at tw7 ⊢
  have H6 := Lib.hid tw7
  clear tw7 nb4
  go_wp2_with (first
    | (refine wpList_load_row rfl 49 _ rfl (w.heap.size + 1 + 1) rfl 49 (toldE 1) (0, 0) _ H6.out.told Tryz.underlying49 rfl (info47 1) ?_)
    | (refine wpList_store_row rfl 49 _ _ rfl (w.heap.size + 1) (toldE 1) rfl rfl 49 (toldE 0) H6.out.back (info47 1) rfl (told_one 1) ?_))
  refine bodyPost_ret (v := .agg (toldE 1)) (results_cell_row (p := 4) (ty := 49) (by kernel_rfl) _ _ (w.heap.size + 1) 49 (toldE 1) (0, 0) _ rfl (H6.out.back.setRow _) Tryz.underlying49 rfl (info47 1)) rfl ⟨rfl, below_setRow H6.out.below _ _ (by omega)⟩
set_option maxRecDepth 100000 in
set_option maxHeartbeats 1000000 in
theorem tells_nobody2 (w : World) (p : Option Addr) (cs : Array Value) (hc : PutC cs) (n0 : Int) (e0 : cs[0]? = some (.int .i64 n0)) (hd : n0 % 10 = 2) (h : Nobody w p) : Calls Tryz.prog 14 #[.pointer p, .agg cs] w fun e w' => e = .returned (.agg (toldE 1)) ∧ Below w.heap.size w w' := by
  have hl : Lies (((w.alloc (.cells cs 28)).alloc (.cells (toldE 0) 49)).alloc (.cells (toldE 0) 49)) w.heap.size cs 28 := ((Lies.new w cs 28).alloc _).alloc _
  have tw := TW.start w cs
  obtain ⟨hsz, _, ⟨n1, e1⟩, _⟩ := hc
  have c0 := hl.cell 0 e0
  have c1 := hl.cell 1 e1
  have hpk := pick_any n0 (((w.alloc (.cells cs 28)).alloc (.cells (toldE 0) 49)).alloc (.cells (toldE 0) 49))
  rw [hd] at hpk
  have c0' := c0
  have c1' := c1
  have HP := Lib.hid (And.intro hpk (And.intro c0' c1'))
  unfold toldE at c0 c1
  clear e0 e1 hpk hd hl c0' c1' hsz
  go_enter Tryz.func14, Tryz.ntmps14
  go_wp2_with fail
  refine HP.out.1.mono ?_
  rintro e w1 ⟨rfl, rfl⟩
  clear c0 c1
  generalize ((w.alloc (.cells cs 28)).alloc (.cells (toldE 0) 49)).alloc (.cells (toldE 0) 49) = W0 at tw HP ⊢
  have c0 := HP.out.2.1
  have c1 := HP.out.2.2
  go_wp2_with fail
  refine (ask54_idle _ p (h.below tw.below).idle).mono ?_
  rintro e w2 ⟨rfl, hb2⟩
  have tw2 := tw.on hb2
  clear hb2 tw c0 c1 HP
  have c2 := tw2.told.cell 0 (v := .int .i64 0) rfl
  have f2 := tw2.told.free 0
  have tw3 := tw2.put 0 (.int .i64 0) rfl
  go_wp2_with fail
  clear c2 f2 tw2
  have nb4 := h.below tw3.below
  refine (left_idle _ p nb4.idle).mono ?_
  rintro e w4 ⟨rfl, rfl⟩
  have c4 := tw3.told.cell 36 (v := .int .i64 0) rfl
  have f4 := tw3.told.free 36
  have tw4 := tw3.put 36 (.int .i64 0) rfl
  go_wp2_with fail
  clear c4 f4 tw3
  refine (err_nobody _ p (h.below tw4.below)).mono ?_
  rintro e w5 ⟨rfl, rfl⟩
  have c5 := tw4.told.cell 37 (v := .int .i64 0) rfl
  have f5 := tw4.told.free 37
  have tw5 := tw4.err
  go_wp2_with fail
  clear c5 f5 tw4
  refine (end_idle _ p (h.below tw5.below).idle).mono ?_
  rintro e w6 ⟨rfl, rfl⟩
  have c6 := tw5.told.cell 38 (v := .bool false) rfl
  have f6 := tw5.told.free 38
  have tw6 := tw5.put 38 (.bool false) rfl
  go_upto_region 25 with fail
  clear c6 f6 tw5
  have tw7 : TW w ((((w2.setCell ⟨w.heap.size + 2, 0, none⟩ (.int .i64 0)).setCell ⟨w.heap.size + 2, 36, none⟩ (.int .i64 0)).setCell ⟨w.heap.size + 2, 37, none⟩ (.int .i64 1)).setCell ⟨w.heap.size + 1 + 1, 38, none⟩ (.bool false)) 1 := tw6
  clear tw6
  generalize ((((w2.setCell ⟨w.heap.size + 2, 0, none⟩ (.int .i64 0)).setCell ⟨w.heap.size + 2, 36, none⟩ (.int .i64 0)).setCell ⟨w.heap.size + 2, 37, none⟩ (.int .i64 1)).setCell ⟨w.heap.size + 1 + 1, 38, none⟩ (.bool false)) = W6 at tw7 ⊢
  have H6 := Lib.hid tw7
  clear tw7 nb4
  go_wp2_with (first
    | (refine wpList_load_row rfl 49 _ rfl (w.heap.size + 1 + 1) rfl 49 (toldE 1) (0, 0) _ H6.out.told Tryz.underlying49 rfl (info47 1) ?_)
    | (refine wpList_store_row rfl 49 _ _ rfl (w.heap.size + 1) (toldE 1) rfl rfl 49 (toldE 0) H6.out.back (info47 1) rfl (told_one 1) ?_))
  refine bodyPost_ret (v := .agg (toldE 1)) (results_cell_row (p := 4) (ty := 49) (by kernel_rfl) _ _ (w.heap.size + 1) 49 (toldE 1) (0, 0) _ rfl (H6.out.back.setRow _) Tryz.underlying49 rfl (info47 1)) rfl ⟨rfl, below_setRow H6.out.below _ _ (by omega)⟩
set_option maxRecDepth 100000 in
set_option maxHeartbeats 1000000 in
theorem tells_nobody3 (w : World) (p : Option Addr) (cs : Array Value) (hc : PutC cs) (n0 : Int) (e0 : cs[0]? = some (.int .i64 n0)) (hd : n0 % 10 = 3) (h : Nobody w p) : Calls Tryz.prog 14 #[.pointer p, .agg cs] w fun e w' => e = .returned (.agg (toldE 1)) ∧ Below w.heap.size w w' := by
  have hl : Lies (((w.alloc (.cells cs 28)).alloc (.cells (toldE 0) 49)).alloc (.cells (toldE 0) 49)) w.heap.size cs 28 := ((Lies.new w cs 28).alloc _).alloc _
  have tw := TW.start w cs
  obtain ⟨hsz, _, ⟨n1, e1⟩, _⟩ := hc
  have c0 := hl.cell 0 e0
  have c1 := hl.cell 1 e1
  have hpk := pick_any n0 (((w.alloc (.cells cs 28)).alloc (.cells (toldE 0) 49)).alloc (.cells (toldE 0) 49))
  rw [hd] at hpk
  have c0' := c0
  have c1' := c1
  have HP := Lib.hid (And.intro hpk (And.intro c0' c1'))
  unfold toldE at c0 c1
  clear e0 e1 hpk hd hl c0' c1' hsz
  go_enter Tryz.func14, Tryz.ntmps14
  go_wp2_with fail
  refine HP.out.1.mono ?_
  rintro e w1 ⟨rfl, rfl⟩
  clear c0 c1
  generalize ((w.alloc (.cells cs 28)).alloc (.cells (toldE 0) 49)).alloc (.cells (toldE 0) 49) = W0 at tw HP ⊢
  have c0 := HP.out.2.1
  have c1 := HP.out.2.2
  go_wp2_with fail
  refine (ask55_idle _ p (h.below tw.below).idle).mono ?_
  rintro e w2 ⟨rfl, hb2⟩
  have tw2 := tw.on hb2
  clear hb2 tw c0 c1 HP
  have c2 := tw2.told.cell 1 (v := .int .u64 0) rfl
  have f2 := tw2.told.free 1
  have tw3 := tw2.put 1 (.int .u64 0) rfl
  go_wp2_with fail
  clear c2 f2 tw2
  have nb4 := h.below tw3.below
  refine (left_idle _ p nb4.idle).mono ?_
  rintro e w4 ⟨rfl, rfl⟩
  have c4 := tw3.told.cell 36 (v := .int .i64 0) rfl
  have f4 := tw3.told.free 36
  have tw4 := tw3.put 36 (.int .i64 0) rfl
  go_wp2_with fail
  clear c4 f4 tw3
  refine (err_nobody _ p (h.below tw4.below)).mono ?_
  rintro e w5 ⟨rfl, rfl⟩
  have c5 := tw4.told.cell 37 (v := .int .i64 0) rfl
  have f5 := tw4.told.free 37
  have tw5 := tw4.err
  go_wp2_with fail
  clear c5 f5 tw4
  refine (end_idle _ p (h.below tw5.below).idle).mono ?_
  rintro e w6 ⟨rfl, rfl⟩
  have c6 := tw5.told.cell 38 (v := .bool false) rfl
  have f6 := tw5.told.free 38
  have tw6 := tw5.put 38 (.bool false) rfl
  go_upto_region 25 with fail
  clear c6 f6 tw5
  have tw7 : TW w ((((w2.setCell ⟨w.heap.size + 2, 1, none⟩ (.int .u64 0)).setCell ⟨w.heap.size + 2, 36, none⟩ (.int .i64 0)).setCell ⟨w.heap.size + 2, 37, none⟩ (.int .i64 1)).setCell ⟨w.heap.size + 1 + 1, 38, none⟩ (.bool false)) 1 := tw6
  clear tw6
  generalize ((((w2.setCell ⟨w.heap.size + 2, 1, none⟩ (.int .u64 0)).setCell ⟨w.heap.size + 2, 36, none⟩ (.int .i64 0)).setCell ⟨w.heap.size + 2, 37, none⟩ (.int .i64 1)).setCell ⟨w.heap.size + 1 + 1, 38, none⟩ (.bool false)) = W6 at tw7 ⊢
  have H6 := Lib.hid tw7
  clear tw7 nb4
  go_wp2_with (first
    | (refine wpList_load_row rfl 49 _ rfl (w.heap.size + 1 + 1) rfl 49 (toldE 1) (0, 0) _ H6.out.told Tryz.underlying49 rfl (info47 1) ?_)
    | (refine wpList_store_row rfl 49 _ _ rfl (w.heap.size + 1) (toldE 1) rfl rfl 49 (toldE 0) H6.out.back (info47 1) rfl (told_one 1) ?_))
  refine bodyPost_ret (v := .agg (toldE 1)) (results_cell_row (p := 4) (ty := 49) (by kernel_rfl) _ _ (w.heap.size + 1) 49 (toldE 1) (0, 0) _ rfl (H6.out.back.setRow _) Tryz.underlying49 rfl (info47 1)) rfl ⟨rfl, below_setRow H6.out.below _ _ (by omega)⟩
set_option maxRecDepth 100000 in
set_option maxHeartbeats 1000000 in
theorem tells_nobody4 (w : World) (p : Option Addr) (cs : Array Value) (hc : PutC cs) (n0 : Int) (e0 : cs[0]? = some (.int .i64 n0)) (hd : n0 % 10 = 4) (h : Nobody w p) : Calls Tryz.prog 14 #[.pointer p, .agg cs] w fun e w' => e = .returned (.agg (toldE 1)) ∧ Below w.heap.size w w' := by
  have hl : Lies (((w.alloc (.cells cs 28)).alloc (.cells (toldE 0) 49)).alloc (.cells (toldE 0) 49)) w.heap.size cs 28 := ((Lies.new w cs 28).alloc _).alloc _
  have tw := TW.start w cs
  obtain ⟨hsz, _, ⟨n1, e1⟩, _⟩ := hc
  have c0 := hl.cell 0 e0
  have c1 := hl.cell 1 e1
  have hpk := pick_any n0 (((w.alloc (.cells cs 28)).alloc (.cells (toldE 0) 49)).alloc (.cells (toldE 0) 49))
  rw [hd] at hpk
  have c0' := c0
  have c1' := c1
  have HP := Lib.hid (And.intro hpk (And.intro c0' c1'))
  unfold toldE at c0 c1
  clear e0 e1 hpk hd hl c0' c1' hsz
  go_enter Tryz.func14, Tryz.ntmps14
  go_wp2_with fail
  refine HP.out.1.mono ?_
  rintro e w1 ⟨rfl, rfl⟩
  clear c0 c1
  generalize ((w.alloc (.cells cs 28)).alloc (.cells (toldE 0) 49)).alloc (.cells (toldE 0) 49) = W0 at tw HP ⊢
  have c0 := HP.out.2.1
  have c1 := HP.out.2.2
  go_wp2_with fail
  refine (ask56_idle _ p (h.below tw.below).idle).mono ?_
  rintro e w2 ⟨rfl, hb2⟩
  have tw2 := tw.on hb2
  clear hb2 tw c0 c1 HP
  have c2 := tw2.told.cell 1 (v := .int .u64 0) rfl
  have f2 := tw2.told.free 1
  have tw3 := tw2.put 1 (.int .u64 0) rfl
  have hcv : ∀ W : World, (convert 2 23 (.int .i64 0)).run Tryz.prog W = .ok (.int .u64 0) W := fun W => by kernel_rfl
  go_wp2_with fail
  clear c2 f2 tw2
  have nb4 := h.below tw3.below
  refine (left_idle _ p nb4.idle).mono ?_
  rintro e w4 ⟨rfl, rfl⟩
  have c4 := tw3.told.cell 36 (v := .int .i64 0) rfl
  have f4 := tw3.told.free 36
  have tw4 := tw3.put 36 (.int .i64 0) rfl
  go_wp2_with fail
  clear c4 f4 tw3
  refine (err_nobody _ p (h.below tw4.below)).mono ?_
  rintro e w5 ⟨rfl, rfl⟩
  have c5 := tw4.told.cell 37 (v := .int .i64 0) rfl
  have f5 := tw4.told.free 37
  have tw5 := tw4.err
  go_wp2_with fail
  clear c5 f5 tw4
  refine (end_idle _ p (h.below tw5.below).idle).mono ?_
  rintro e w6 ⟨rfl, rfl⟩
  have c6 := tw5.told.cell 38 (v := .bool false) rfl
  have f6 := tw5.told.free 38
  have tw6 := tw5.put 38 (.bool false) rfl
  go_upto_region 25 with fail
  clear c6 f6 tw5
  have tw7 : TW w ((((w2.setCell ⟨w.heap.size + 2, 1, none⟩ (.int .u64 0)).setCell ⟨w.heap.size + 2, 36, none⟩ (.int .i64 0)).setCell ⟨w.heap.size + 2, 37, none⟩ (.int .i64 1)).setCell ⟨w.heap.size + 1 + 1, 38, none⟩ (.bool false)) 1 := tw6
  clear tw6
  generalize ((((w2.setCell ⟨w.heap.size + 2, 1, none⟩ (.int .u64 0)).setCell ⟨w.heap.size + 2, 36, none⟩ (.int .i64 0)).setCell ⟨w.heap.size + 2, 37, none⟩ (.int .i64 1)).setCell ⟨w.heap.size + 1 + 1, 38, none⟩ (.bool false)) = W6 at tw7 ⊢
  have H6 := Lib.hid tw7
  clear tw7 nb4
  go_wp2_with (first
    | (refine wpList_load_row rfl 49 _ rfl (w.heap.size + 1 + 1) rfl 49 (toldE 1) (0, 0) _ H6.out.told Tryz.underlying49 rfl (info47 1) ?_)
    | (refine wpList_store_row rfl 49 _ _ rfl (w.heap.size + 1) (toldE 1) rfl rfl 49 (toldE 0) H6.out.back (info47 1) rfl (told_one 1) ?_))
  refine bodyPost_ret (v := .agg (toldE 1)) (results_cell_row (p := 4) (ty := 49) (by kernel_rfl) _ _ (w.heap.size + 1) 49 (toldE 1) (0, 0) _ rfl (H6.out.back.setRow _) Tryz.underlying49 rfl (info47 1)) rfl ⟨rfl, below_setRow H6.out.below _ _ (by omega)⟩
set_option maxRecDepth 100000 in
set_option maxHeartbeats 1000000 in
theorem tells_nobody6 (w : World) (p : Option Addr) (cs : Array Value) (hc : PutC cs) (n0 : Int) (e0 : cs[0]? = some (.int .i64 n0)) (hd : n0 % 10 = 6) (h : Nobody w p) : Calls Tryz.prog 14 #[.pointer p, .agg cs] w fun e w' => e = .returned (.agg (toldE 1)) ∧ Below w.heap.size w w' := by
  have hl : Lies (((w.alloc (.cells cs 28)).alloc (.cells (toldE 0) 49)).alloc (.cells (toldE 0) 49)) w.heap.size cs 28 := ((Lies.new w cs 28).alloc _).alloc _
  have tw := TW.start w cs
  obtain ⟨hsz, _, ⟨n1, e1⟩, _⟩ := hc
  have c0 := hl.cell 0 e0
  have c1 := hl.cell 1 e1
  have hpk := pick_any n0 (((w.alloc (.cells cs 28)).alloc (.cells (toldE 0) 49)).alloc (.cells (toldE 0) 49))
  rw [hd] at hpk
  have c0' := c0
  have c1' := c1
  have HP := Lib.hid (And.intro hpk (And.intro c0' c1'))
  unfold toldE at c0 c1
  clear e0 e1 hpk hd hl c0' c1' hsz
  go_enter Tryz.func14, Tryz.ntmps14
  go_wp2_with fail
  refine HP.out.1.mono ?_
  rintro e w1 ⟨rfl, rfl⟩
  clear c0 c1
  generalize ((w.alloc (.cells cs 28)).alloc (.cells (toldE 0) 49)).alloc (.cells (toldE 0) 49) = W0 at tw HP ⊢
  have c0 := HP.out.2.1
  have c1 := HP.out.2.2
  go_wp2_with fail
  refine (ask26_idle _ p _ (h.below tw.below).idle).mono ?_
  rintro e w2 ⟨rfl, hb2⟩
  have tw2 := tw.on hb2
  clear hb2 tw c0 c1 HP
  have c2 := tw2.told.cell 34 (v := .string ⟨#[]⟩) rfl
  have f2 := tw2.told.free 34
  have tw3 := tw2.put 34 (.string ⟨#[]⟩) rfl
  have hcv : ∀ W : World, (convert 26 9 (.slice none 0 0)).run Tryz.prog W = .ok (.string ⟨#[]⟩) W := fun W => run_convert_bytes_nil W 26 5 Tryz.underlying26 Tryz.underlying5 0 0 9 Tryz.underlying9
  go_wp2_with fail
  clear c2 f2 tw2
  have nb4 := h.below tw3.below
  refine (left_idle _ p nb4.idle).mono ?_
  rintro e w4 ⟨rfl, rfl⟩
  have c4 := tw3.told.cell 36 (v := .int .i64 0) rfl
  have f4 := tw3.told.free 36
  have tw4 := tw3.put 36 (.int .i64 0) rfl
  go_wp2_with fail
  clear c4 f4 tw3
  refine (err_nobody _ p (h.below tw4.below)).mono ?_
  rintro e w5 ⟨rfl, rfl⟩
  have c5 := tw4.told.cell 37 (v := .int .i64 0) rfl
  have f5 := tw4.told.free 37
  have tw5 := tw4.err
  go_wp2_with fail
  clear c5 f5 tw4
  refine (end_idle _ p (h.below tw5.below).idle).mono ?_
  rintro e w6 ⟨rfl, rfl⟩
  have c6 := tw5.told.cell 38 (v := .bool false) rfl
  have f6 := tw5.told.free 38
  have tw6 := tw5.put 38 (.bool false) rfl
  go_upto_region 25 with fail
  clear c6 f6 tw5
  have tw7 : TW w ((((w2.setCell ⟨w.heap.size + 2, 34, none⟩ (.string ⟨#[]⟩)).setCell ⟨w.heap.size + 2, 36, none⟩ (.int .i64 0)).setCell ⟨w.heap.size + 2, 37, none⟩ (.int .i64 1)).setCell ⟨w.heap.size + 1 + 1, 38, none⟩ (.bool false)) 1 := tw6
  clear tw6
  generalize ((((w2.setCell ⟨w.heap.size + 2, 34, none⟩ (.string ⟨#[]⟩)).setCell ⟨w.heap.size + 2, 36, none⟩ (.int .i64 0)).setCell ⟨w.heap.size + 2, 37, none⟩ (.int .i64 1)).setCell ⟨w.heap.size + 1 + 1, 38, none⟩ (.bool false)) = W6 at tw7 ⊢
  have H6 := Lib.hid tw7
  clear tw7 nb4
  go_wp2_with (first
    | (refine wpList_load_row rfl 49 _ rfl (w.heap.size + 1 + 1) rfl 49 (toldE 1) (0, 0) _ H6.out.told Tryz.underlying49 rfl (info47 1) ?_)
    | (refine wpList_store_row rfl 49 _ _ rfl (w.heap.size + 1) (toldE 1) rfl rfl 49 (toldE 0) H6.out.back (info47 1) rfl (told_one 1) ?_))
  refine bodyPost_ret (v := .agg (toldE 1)) (results_cell_row (p := 4) (ty := 49) (by kernel_rfl) _ _ (w.heap.size + 1) 49 (toldE 1) (0, 0) _ rfl (H6.out.back.setRow _) Tryz.underlying49 rfl (info47 1)) rfl ⟨rfl, below_setRow H6.out.below _ _ (by omega)⟩
set_option maxRecDepth 100000 in
set_option maxHeartbeats 1000000 in
theorem tells_nobody7 (w : World) (p : Option Addr) (cs : Array Value) (hc : PutC cs) (n0 : Int) (e0 : cs[0]? = some (.int .i64 n0)) (hd : n0 % 10 = 7) (h : Nobody w p) : Calls Tryz.prog 14 #[.pointer p, .agg cs] w fun e w' => e = .returned (.agg (toldE 1)) ∧ Below w.heap.size w w' := by
  have hl : Lies (((w.alloc (.cells cs 28)).alloc (.cells (toldE 0) 49)).alloc (.cells (toldE 0) 49)) w.heap.size cs 28 := ((Lies.new w cs 28).alloc _).alloc _
  have tw := TW.start w cs
  obtain ⟨hsz, _, ⟨n1, e1⟩, _⟩ := hc
  have c0 := hl.cell 0 e0
  have c1 := hl.cell 1 e1
  have hpk := pick_any n0 (((w.alloc (.cells cs 28)).alloc (.cells (toldE 0) 49)).alloc (.cells (toldE 0) 49))
  rw [hd] at hpk
  have c0' := c0
  have c1' := c1
  have HP := Lib.hid (And.intro hpk (And.intro c0' c1'))
  unfold toldE at c0 c1
  clear e0 e1 hpk hd hl c0' c1' hsz
  go_enter Tryz.func14, Tryz.ntmps14
  go_wp2_with fail
  refine HP.out.1.mono ?_
  rintro e w1 ⟨rfl, rfl⟩
  clear c0 c1
  generalize ((w.alloc (.cells cs 28)).alloc (.cells (toldE 0) 49)).alloc (.cells (toldE 0) 49) = W0 at tw HP ⊢
  have c0 := HP.out.2.1
  have c1 := HP.out.2.2
  go_wp2_with fail
  refine (ask32_idle _ p _ (h.below tw.below).idle).mono ?_
  rintro e w2 ⟨rfl, hb2⟩
  have tw2 := tw.on hb2
  clear hb2 tw c0 c1 HP
  have c2 := tw2.told.cell 34 (v := .string ⟨#[]⟩) rfl
  have f2 := tw2.told.free 34
  have tw3 := tw2.put 34 (.string ⟨#[]⟩) rfl
  go_wp2_with fail
  clear c2 f2 tw2
  have nb4 := h.below tw3.below
  refine (left_idle _ p nb4.idle).mono ?_
  rintro e w4 ⟨rfl, rfl⟩
  have c4 := tw3.told.cell 36 (v := .int .i64 0) rfl
  have f4 := tw3.told.free 36
  have tw4 := tw3.put 36 (.int .i64 0) rfl
  go_wp2_with fail
  clear c4 f4 tw3
  refine (err_nobody _ p (h.below tw4.below)).mono ?_
  rintro e w5 ⟨rfl, rfl⟩
  have c5 := tw4.told.cell 37 (v := .int .i64 0) rfl
  have f5 := tw4.told.free 37
  have tw5 := tw4.err
  go_wp2_with fail
  clear c5 f5 tw4
  refine (end_idle _ p (h.below tw5.below).idle).mono ?_
  rintro e w6 ⟨rfl, rfl⟩
  have c6 := tw5.told.cell 38 (v := .bool false) rfl
  have f6 := tw5.told.free 38
  have tw6 := tw5.put 38 (.bool false) rfl
  go_upto_region 25 with fail
  clear c6 f6 tw5
  have tw7 : TW w ((((w2.setCell ⟨w.heap.size + 2, 34, none⟩ (.string ⟨#[]⟩)).setCell ⟨w.heap.size + 2, 36, none⟩ (.int .i64 0)).setCell ⟨w.heap.size + 2, 37, none⟩ (.int .i64 1)).setCell ⟨w.heap.size + 1 + 1, 38, none⟩ (.bool false)) 1 := tw6
  clear tw6
  generalize ((((w2.setCell ⟨w.heap.size + 2, 34, none⟩ (.string ⟨#[]⟩)).setCell ⟨w.heap.size + 2, 36, none⟩ (.int .i64 0)).setCell ⟨w.heap.size + 2, 37, none⟩ (.int .i64 1)).setCell ⟨w.heap.size + 1 + 1, 38, none⟩ (.bool false)) = W6 at tw7 ⊢
  have H6 := Lib.hid tw7
  clear tw7 nb4
  go_wp2_with (first
    | (refine wpList_load_row rfl 49 _ rfl (w.heap.size + 1 + 1) rfl 49 (toldE 1) (0, 0) _ H6.out.told Tryz.underlying49 rfl (info47 1) ?_)
    | (refine wpList_store_row rfl 49 _ _ rfl (w.heap.size + 1) (toldE 1) rfl rfl 49 (toldE 0) H6.out.back (info47 1) rfl (told_one 1) ?_))
  refine bodyPost_ret (v := .agg (toldE 1)) (results_cell_row (p := 4) (ty := 49) (by kernel_rfl) _ _ (w.heap.size + 1) 49 (toldE 1) (0, 0) _ rfl (H6.out.back.setRow _) Tryz.underlying49 rfl (info47 1)) rfl ⟨rfl, below_setRow H6.out.below _ _ (by omega)⟩
set_option maxRecDepth 100000 in
set_option maxHeartbeats 1000000 in
theorem tells_nobody8 (w : World) (p : Option Addr) (cs : Array Value) (hc : PutC cs) (n0 : Int) (e0 : cs[0]? = some (.int .i64 n0)) (hd : n0 % 10 = 8) (h : Nobody w p) : Calls Tryz.prog 14 #[.pointer p, .agg cs] w fun e w' => e = .returned (.agg (toldE 1)) ∧ Below w.heap.size w w' := by
  have hl : Lies (((w.alloc (.cells cs 28)).alloc (.cells (toldE 0) 49)).alloc (.cells (toldE 0) 49)) w.heap.size cs 28 := ((Lies.new w cs 28).alloc _).alloc _
  have tw := TW.start w cs
  obtain ⟨hsz, _, ⟨n1, e1⟩, _⟩ := hc
  have c0 := hl.cell 0 e0
  have c1 := hl.cell 1 e1
  have hpk := pick_any n0 (((w.alloc (.cells cs 28)).alloc (.cells (toldE 0) 49)).alloc (.cells (toldE 0) 49))
  rw [hd] at hpk
  have c0' := c0
  have c1' := c1
  have HP := Lib.hid (And.intro hpk (And.intro c0' c1'))
  unfold toldE at c0 c1
  clear e0 e1 hpk hd hl c0' c1' hsz
  go_enter Tryz.func14, Tryz.ntmps14
  go_wp2_with fail
  refine HP.out.1.mono ?_
  rintro e w1 ⟨rfl, rfl⟩
  clear c0 c1
  generalize ((w.alloc (.cells cs 28)).alloc (.cells (toldE 0) 49)).alloc (.cells (toldE 0) 49) = W0 at tw HP ⊢
  have c0 := HP.out.2.1
  have c1 := HP.out.2.2
  go_wp2_with fail
  refine (ask33_idle _ p (h.below tw.below).idle).mono ?_
  rintro e w2 ⟨rfl, hb2⟩
  have tw2 := tw.on hb2
  clear hb2 tw c0 c1 HP
  have c2 := tw2.told.cell 35 (v := .bool false) rfl
  have f2 := tw2.told.free 35
  have tw3 := tw2.put 35 (.bool false) rfl
  go_wp2_with fail
  clear c2 f2 tw2
  have nb4 := h.below tw3.below
  refine (left_idle _ p nb4.idle).mono ?_
  rintro e w4 ⟨rfl, rfl⟩
  have c4 := tw3.told.cell 36 (v := .int .i64 0) rfl
  have f4 := tw3.told.free 36
  have tw4 := tw3.put 36 (.int .i64 0) rfl
  go_wp2_with fail
  clear c4 f4 tw3
  refine (err_nobody _ p (h.below tw4.below)).mono ?_
  rintro e w5 ⟨rfl, rfl⟩
  have c5 := tw4.told.cell 37 (v := .int .i64 0) rfl
  have f5 := tw4.told.free 37
  have tw5 := tw4.err
  go_wp2_with fail
  clear c5 f5 tw4
  refine (end_idle _ p (h.below tw5.below).idle).mono ?_
  rintro e w6 ⟨rfl, rfl⟩
  have c6 := tw5.told.cell 38 (v := .bool false) rfl
  have f6 := tw5.told.free 38
  have tw6 := tw5.put 38 (.bool false) rfl
  go_upto_region 25 with fail
  clear c6 f6 tw5
  have tw7 : TW w ((((w2.setCell ⟨w.heap.size + 2, 35, none⟩ (.bool false)).setCell ⟨w.heap.size + 2, 36, none⟩ (.int .i64 0)).setCell ⟨w.heap.size + 2, 37, none⟩ (.int .i64 1)).setCell ⟨w.heap.size + 1 + 1, 38, none⟩ (.bool false)) 1 := tw6
  clear tw6
  generalize ((((w2.setCell ⟨w.heap.size + 2, 35, none⟩ (.bool false)).setCell ⟨w.heap.size + 2, 36, none⟩ (.int .i64 0)).setCell ⟨w.heap.size + 2, 37, none⟩ (.int .i64 1)).setCell ⟨w.heap.size + 1 + 1, 38, none⟩ (.bool false)) = W6 at tw7 ⊢
  have H6 := Lib.hid tw7
  clear tw7 nb4
  go_wp2_with (first
    | (refine wpList_load_row rfl 49 _ rfl (w.heap.size + 1 + 1) rfl 49 (toldE 1) (0, 0) _ H6.out.told Tryz.underlying49 rfl (info47 1) ?_)
    | (refine wpList_store_row rfl 49 _ _ rfl (w.heap.size + 1) (toldE 1) rfl rfl 49 (toldE 0) H6.out.back (info47 1) rfl (told_one 1) ?_))
  refine bodyPost_ret (v := .agg (toldE 1)) (results_cell_row (p := 4) (ty := 49) (by kernel_rfl) _ _ (w.heap.size + 1) 49 (toldE 1) (0, 0) _ rfl (H6.out.back.setRow _) Tryz.underlying49 rfl (info47 1)) rfl ⟨rfl, below_setRow H6.out.below _ _ (by omega)⟩
set_option maxRecDepth 100000 in
set_option maxHeartbeats 1000000 in
theorem tells_nobody9 (w : World) (p : Option Addr) (cs : Array Value) (hc : PutC cs) (n0 : Int) (e0 : cs[0]? = some (.int .i64 n0)) (hd : n0 % 10 = 9) (h : Nobody w p) : Calls Tryz.prog 14 #[.pointer p, .agg cs] w fun e w' => e = .returned (.agg (toldE 1)) ∧ Below w.heap.size w w' := by
  have hl : Lies (((w.alloc (.cells cs 28)).alloc (.cells (toldE 0) 49)).alloc (.cells (toldE 0) 49)) w.heap.size cs 28 := ((Lies.new w cs 28).alloc _).alloc _
  have tw := TW.start w cs
  obtain ⟨hsz, _, ⟨n1, e1⟩, _⟩ := hc
  have c0 := hl.cell 0 e0
  have c1 := hl.cell 1 e1
  have hpk := pick_any n0 (((w.alloc (.cells cs 28)).alloc (.cells (toldE 0) 49)).alloc (.cells (toldE 0) 49))
  rw [hd] at hpk
  have c0' := c0
  have c1' := c1
  have HP := Lib.hid (And.intro hpk (And.intro c0' c1'))
  unfold toldE at c0 c1
  clear e0 e1 hpk hd hl c0' c1' hsz
  go_enter Tryz.func14, Tryz.ntmps14
  go_wp2_with fail
  refine HP.out.1.mono ?_
  rintro e w1 ⟨rfl, rfl⟩
  clear c0 c1
  generalize ((w.alloc (.cells cs 28)).alloc (.cells (toldE 0) 49)).alloc (.cells (toldE 0) 49) = W0 at tw HP ⊢
  have c0 := HP.out.2.1
  have c1 := HP.out.2.2
  go_wp2_with fail
  refine (ask31_idle _ p _ (h.below tw.below).idle).mono ?_
  rintro e w2 ⟨rfl, hb2⟩
  have tw2 := tw.on hb2
  clear hb2 tw c0 c1 HP
  have c2 := tw2.told.cell 0 (v := .int .i64 0) rfl
  have f2 := tw2.told.free 0
  have tw3 := tw2.put 0 (.int .i64 0) rfl
  go_wp2_with fail
  clear c2 f2 tw2
  have nb4 := h.below tw3.below
  refine (left_idle _ p nb4.idle).mono ?_
  rintro e w4 ⟨rfl, rfl⟩
  have c4 := tw3.told.cell 36 (v := .int .i64 0) rfl
  have f4 := tw3.told.free 36
  have tw4 := tw3.put 36 (.int .i64 0) rfl
  go_wp2_with fail
  clear c4 f4 tw3
  refine (err_nobody _ p (h.below tw4.below)).mono ?_
  rintro e w5 ⟨rfl, rfl⟩
  have c5 := tw4.told.cell 37 (v := .int .i64 0) rfl
  have f5 := tw4.told.free 37
  have tw5 := tw4.err
  go_wp2_with fail
  clear c5 f5 tw4
  refine (end_idle _ p (h.below tw5.below).idle).mono ?_
  rintro e w6 ⟨rfl, rfl⟩
  have c6 := tw5.told.cell 38 (v := .bool false) rfl
  have f6 := tw5.told.free 38
  have tw6 := tw5.put 38 (.bool false) rfl
  go_upto_region 25 with fail
  clear c6 f6 tw5
  have tw7 : TW w ((((w2.setCell ⟨w.heap.size + 2, 0, none⟩ (.int .i64 0)).setCell ⟨w.heap.size + 2, 36, none⟩ (.int .i64 0)).setCell ⟨w.heap.size + 2, 37, none⟩ (.int .i64 1)).setCell ⟨w.heap.size + 1 + 1, 38, none⟩ (.bool false)) 1 := tw6
  clear tw6
  generalize ((((w2.setCell ⟨w.heap.size + 2, 0, none⟩ (.int .i64 0)).setCell ⟨w.heap.size + 2, 36, none⟩ (.int .i64 0)).setCell ⟨w.heap.size + 2, 37, none⟩ (.int .i64 1)).setCell ⟨w.heap.size + 1 + 1, 38, none⟩ (.bool false)) = W6 at tw7 ⊢
  have H6 := Lib.hid tw7
  clear tw7 nb4
  go_wp2_with (first
    | (refine wpList_load_row rfl 49 _ rfl (w.heap.size + 1 + 1) rfl 49 (toldE 1) (0, 0) _ H6.out.told Tryz.underlying49 rfl (info47 1) ?_)
    | (refine wpList_store_row rfl 49 _ _ rfl (w.heap.size + 1) (toldE 1) rfl rfl 49 (toldE 0) H6.out.back (info47 1) rfl (told_one 1) ?_))
  refine bodyPost_ret (v := .agg (toldE 1)) (results_cell_row (p := 4) (ty := 49) (by kernel_rfl) _ _ (w.heap.size + 1) 49 (toldE 1) (0, 0) _ rfl (H6.out.back.setRow _) Tryz.underlying49 rfl (info47 1)) rfl ⟨rfl, below_setRow H6.out.below _ _ (by omega)⟩
end Go.Proofs.YtjbjagdpemnhiaaGreat
