/-
  How the nodes of a term lie: one node (set).
-/
import Derived.Test.YtilbbemdinpjcaaGreatJTFOrder
import Derived.Laws.IdiomStrings
import Derived.Deep.RegionHeld3
import Derived.Lib.Hide
import Derived.RegionTactic
import Derived.Deep.QuietTactic
import Derived.BigQuiet
import Derived.Outline
set_option maxHeartbeats 16000000
namespace Go.Proofs.YtilbbemdinpjcaaGreat.T
open Go.RowKit
theorem cmpnanN_any (x : Int) (w : World) : Calls Tryz.prog 144 #[.int .i64 x] w fun e w' => e = .returned (.bool false) ∧ w = w' := by
 have h : (x != x) = false := by simp
 go_enter Tryz.func144, Tryz.ntmps144
 go_wp2
 go_ret
 exact ⟨rfl, rfl⟩
theorem compareN_any (w : World) (x y : Int) : Calls Tryz.prog 78 #[.int .i64 x, .int .i64 y] w fun e w' => e = .returned (.int .i64 (cmpI x y)) ∧ w = w' := by
 have c1 := cmpnanN_any x w
 have c2 := cmpnanN_any y w
 obtain ⟨m, hm⟩ : ∃ m, m = cmpI x y := ⟨_, rfl⟩
 rw [← hm]
 unfold cmpI at hm
 by_cases h1 : x < y
 ·
  rw [if_pos h1] at hm
  have HM := Lib.hid hm
  clear hm
  go_enter Tryz.func78, Tryz.ntmps78
  go_wp2_with fail
  refine c1.mono ?_
  rintro e w' ⟨rfl, rfl⟩
  go_wp2_with fail
  refine c2.mono ?_
  rintro e w' ⟨rfl, rfl⟩
  clear c1 c2
  go_wp2_with fail
  go_ret
  exact ⟨ret_i HM.out.symm, rfl⟩
 ·
  rw [if_neg h1] at hm
  by_cases h2 : y < x
  ·
   rw [if_pos h2] at hm
   have HM := Lib.hid hm
   clear hm
   go_enter Tryz.func78, Tryz.ntmps78
   go_wp2_with fail
   refine c1.mono ?_
   rintro e w' ⟨rfl, rfl⟩
   go_wp2_with fail
   refine c2.mono ?_
   rintro e w' ⟨rfl, rfl⟩
   clear c1 c2
   go_wp2_with fail
   go_ret
   exact ⟨ret_i HM.out.symm, rfl⟩
  ·
   rw [if_neg h2] at hm
   have HM := Lib.hid hm
   clear hm
   go_enter Tryz.func78, Tryz.ntmps78
   go_wp2_with fail
   refine c1.mono ?_
   rintro e w' ⟨rfl, rfl⟩
   go_wp2_with fail
   refine c2.mono ?_
   rintro e w' ⟨rfl, rfl⟩
   clear c1 c2
   go_wp2_with fail
   go_ret
   exact ⟨ret_i HM.out.symm, rfl⟩
theorem cmpnanK_any (x : Int) (w : World) : Calls Tryz.prog 323 #[.int .i64 x] w fun e w' => e = .returned (.bool false) ∧ w = w' := by
 have h : (x != x) = false := by simp
 go_enter Tryz.func323, Tryz.ntmps323
 go_wp2
 go_ret
 exact ⟨rfl, rfl⟩
theorem compareK_any (w : World) (x y : Int) : Calls Tryz.prog 318 #[.int .i64 x, .int .i64 y] w fun e w' => e = .returned (.int .i64 (cmpI x y)) ∧ w = w' := by
 have c1 := cmpnanK_any x w
 have c2 := cmpnanK_any y w
 obtain ⟨m, hm⟩ : ∃ m, m = cmpI x y := ⟨_, rfl⟩
 rw [← hm]
 unfold cmpI at hm
 by_cases h1 : x < y
 ·
  rw [if_pos h1] at hm
  have HM := Lib.hid hm
  clear hm
  go_enter Tryz.func318, Tryz.ntmps318
  go_wp2_with fail
  refine c1.mono ?_
  rintro e w' ⟨rfl, rfl⟩
  go_wp2_with fail
  refine c2.mono ?_
  rintro e w' ⟨rfl, rfl⟩
  clear c1 c2
  go_wp2_with fail
  go_ret
  exact ⟨ret_i HM.out.symm, rfl⟩
 ·
  rw [if_neg h1] at hm
  by_cases h2 : y < x
  ·
   rw [if_pos h2] at hm
   have HM := Lib.hid hm
   clear hm
   go_enter Tryz.func318, Tryz.ntmps318
   go_wp2_with fail
   refine c1.mono ?_
   rintro e w' ⟨rfl, rfl⟩
   go_wp2_with fail
   refine c2.mono ?_
   rintro e w' ⟨rfl, rfl⟩
   clear c1 c2
   go_wp2_with fail
   go_ret
   exact ⟨ret_i HM.out.symm, rfl⟩
  ·
   rw [if_neg h2] at hm
   have HM := Lib.hid hm
   clear hm
   go_enter Tryz.func318, Tryz.ntmps318
   go_wp2_with fail
   refine c1.mono ?_
   rintro e w' ⟨rfl, rfl⟩
   go_wp2_with fail
   refine c2.mono ?_
   rintro e w' ⟨rfl, rfl⟩
   clear c1 c2
   go_wp2_with fail
   go_ret
   exact ⟨ret_i HM.out.symm, rfl⟩
theorem cmpnanS_any (x : ByteArray) (w : World) : Calls Tryz.prog 286 #[.string x] w fun e w' => e = .returned (.bool false) ∧ w = w' := by
 go_enter Tryz.func286, Tryz.ntmps286
 go_wp2
 go_ret
 exact ⟨rfl, rfl⟩
def cmpS (x y : ByteArray) : Int := if Op.bytesLess x.toList y.toList = true then -1 else if (x.toList == y.toList) = true then 0 else 1
theorem compareS_any (w : World) (x y : ByteArray) : Calls Tryz.prog 261 #[.string x, .string y] w fun e w' => e = .returned (.int .i64 (cmpS x y)) ∧ w = w' := by
 have c1 := cmpnanS_any x w
 have c2 := cmpnanS_any y w
 obtain ⟨m, hm⟩ : ∃ m, m = cmpS x y := ⟨_, rfl⟩
 rw [← hm]
 unfold cmpS at hm
 have HM := Lib.hid hm
 clear hm
 go_enter Tryz.func261, Tryz.ntmps261
 go_wp2_with fail
 refine c1.mono ?_
 rintro e w' ⟨rfl, rfl⟩
 go_wp2_with fail
 refine c2.mono ?_
 rintro e w' ⟨rfl, rfl⟩
 clear c1 c2
 go_wp2_with fail
 all_goals (go_ret; have hm := HM.out; exact ⟨ret_i (by rw [hm]; simp_all), rfl⟩)
def firstNZ : List Int → Int
 | [] => 0
 | x :: l => if x = 0 then firstNZ l else x
theorem firstNZ_at : ∀ (xs : List Int) (k : Nat), (∀ j, j < k → xs.getD j 0 = 0) → k < xs.length → xs.getD k 0 ≠ 0 → firstNZ xs = xs.getD k 0
  | [], k, _, h, _ => by simp at h
  | x :: l, 0, _, _, h => by simp at h ⊢; simp [firstNZ, h]
  | x :: l, k + 1, h0, h1, h2 => by
    have hx : x = 0 := by have := h0 0 (by omega); simpa using this
    have ih := firstNZ_at l k (fun j hj => by have := h0 (j + 1) (by omega); simpa using this) (by simpa using h1) (by simpa using h2)
    unfold firstNZ
    rw [if_pos hx, ih]
    simp
theorem firstNZ_none : ∀ (xs : List Int), (∀ j, j < xs.length → xs.getD j 0 = 0) → firstNZ xs = 0
  | [], _ => rfl
  | x :: l, h => by
    have hx : x = 0 := by have := h 0 (by simp); simpa using this
    unfold firstNZ
    rw [if_pos hx, firstNZ_none l fun j hj => by have := h (j + 1) (by simp; omega); simpa using this]
theorem or_any (xs : List Int) (g c : Nat) (w : World) (hc : ∀ j, j < xs.length → w.cell? ⟨g, j, none⟩ = some (.int .i64 (xs.getD j 0))) (hl : xs.length ≤ 100) :
  Calls Tryz.prog 76 #[.slice (some ⟨g, 0, none⟩) xs.length c] w fun e w' => e = .returned (.int .i64 (firstNZ xs)) ∧ w = w' := by
 have HC := Lib.hid hc
 clear hc
 go_enter Tryz.func76, Tryz.ntmps76
 go_wp2_with fail
 go_loop [8] (fun i => ∃ k : Nat, k ≤ xs.length ∧ i = .int .i64 k ∧ ∀ j, j < k → xs.getD j 0 = 0) (fun i => xs.length - (intOf i).toNat)
 case atStart => exact ⟨0, Nat.zero_le _, rfl, fun j hj => by omega⟩
 case round =>
  obtain ⟨k, hk, rfl, hz⟩ := hrel
  have HZ := Lib.hid hz
  clear hz
  by_cases hlt : k < xs.length
  ·
   have cc := HC.out k hlt
   obtain ⟨x, hx⟩ : ∃ x, x = xs.getD k 0 := ⟨_, rfl⟩
   rw [← hx] at cc
   have HX := Lib.hid hx
   clear hx
   by_cases h0 : x = 0
   ·
    subst h0
    go_wp2_with fail
    go_round
    case rel => exact ⟨k + 1, by omega, by go_num, fun j hj => by
     by_cases e : j = k
     ·
      rw [e]; exact HX.out.symm
     ·
      exact HZ.out j (by omega)⟩
    case measure => simp [intOf]; omega
   ·
    have hb : (x != 0) = true := by rw [bne_iff_ne]; exact h0
    go_wp2_with fail
    go_ret
    have hx := HX.out
    exact ⟨ret_i (by rw [firstNZ_at xs k HZ.out hlt (by rw [← hx]; exact h0), hx]), rfl⟩
  ·
   have hkl : k = xs.length := by omega
   have he : decide (k < xs.length) = false := by simpa using hlt
   go_wp2_with fail
   go_ret
   exact ⟨ret_i (firstNZ_none xs (by rw [← hkl]; exact HZ.out)).symm, rfl⟩
end Go.Proofs.YtilbbemdinpjcaaGreat.T
namespace Go.Proofs.YtilbbemdinpjcaaGreat.T
open Go.RowKit
structure Nd where
 kind : Int
 num : Int
 bits : Nat
 txt : ByteArray
 kids : Int
def Nd.cells (n : Nd) : Array Value := #[.int .i64 n.kind, .int .i64 n.num, .int .u64 n.bits, .string n.txt, .int .i64 n.kids]
def partO (a b : Nd) : Int := firstNZ [cmpI a.kind b.kind, cmpI a.num b.num, ordC a.bits b.bits, cmpS a.txt b.txt]
set_option maxRecDepth 100000 in
theorem parts_any (a b : Nd) (w : World) : Calls Tryz.prog 312 #[.agg a.cells, .agg b.cells] w fun e w' => e = .returned (.int .i64 (partO a b)) ∧ Below w.heap.size w w' := by
 obtain ⟨k1, n1, b1, t1, d1⟩ := a
 obtain ⟨k2, n2, b2, t2, d2⟩ := b
 obtain ⟨r, hr⟩ : ∃ r, r = partO ⟨k1, n1, b1, t1, d1⟩ ⟨k2, n2, b2, t2, d2⟩ := ⟨_, rfl⟩
 rw [← hr]
 unfold partO at hr
 simp only at hr
 obtain ⟨o1, ho1⟩ : ∃ o, o = cmpI k1 k2 := ⟨_, rfl⟩
 obtain ⟨o2, ho2⟩ : ∃ o, o = cmpI n1 n2 := ⟨_, rfl⟩
 obtain ⟨o3, ho3⟩ : ∃ o, o = ordC b1 b2 := ⟨_, rfl⟩
 obtain ⟨o4, ho4⟩ : ∃ o, o = cmpS t1 t2 := ⟨_, rfl⟩
 rw [← ho1, ← ho2, ← ho3, ← ho4] at hr
 have q1 : ∀ V, Calls Tryz.prog 318 #[.int .i64 k1, .int .i64 k2] V fun e w' => e = .returned (.int .i64 o1) ∧ V = w' := fun V => by rw [ho1]; exact compareK_any V k1 k2
 have q2 : ∀ V, Calls Tryz.prog 319 #[.int .i64 n1, .int .i64 n2] V fun e w' => e = .returned (.int .i64 o2) ∧ V = w' := fun V => by rw [ho2]; exact compareI_any V n1 n2
 have q3 : ∀ V, Calls Tryz.prog 320 #[.int .u64 b1, .int .u64 b2] V fun e w' => e = .returned (.int .i64 o3) ∧ Below V.heap.size V w' := fun V => by rw [ho3]; exact order_any V b1 b2
 have q4 : ∀ V, Calls Tryz.prog 261 #[.string t1, .string t2] V fun e w' => e = .returned (.int .i64 o4) ∧ V = w' := fun V => by rw [ho4]; exact compareS_any V t1 t2
 have q5 : ∀ (V : World), Calls Tryz.prog 76 #[.slice (some ⟨V.heap.size, 0, none⟩) 4 4] (V.alloc (.cells #[.int .i64 o1, .int .i64 o2, .int .i64 o3, .int .i64 o4] 3)) fun e w' => e = .returned (.int .i64 r) ∧ V.alloc (.cells #[.int .i64 o1, .int .i64 o2, .int .i64 o3, .int .i64 o4] 3) = w' := fun V => by
  have := or_any [o1, o2, o3, o4] V.heap.size 4 (V.alloc (.cells #[.int .i64 o1, .int .i64 o2, .int .i64 o3, .int .i64 o4] 3)) (fun j hj => by
   have : j = 0 ∨ j = 1 ∨ j = 2 ∨ j = 3 := by simp at hj; omega
   rcases this with rfl | rfl | rfl | rfl <;> simp [go_sem]) (by simp)
  rw [hr]; exact this
 have Q := Lib.hid (And.intro q1 (And.intro q2 (And.intro q3 (And.intro q4 q5))))
 clear q1 q2 q3 q4 q5 hr ho1 ho2 ho3 ho4
 unfold Nd.cells
 go_enter Tryz.func312, Tryz.ntmps312
 go_upto_region 1 with fail
 have hA : (w.alloc (.cells #[.int .i64 k1, .int .i64 n1, .int .u64 (b1 : Int), .string t1, .int .i64 d1] 72) |>.alloc (.cells #[.int .i64 k2, .int .i64 n2, .int .u64 (b2 : Int), .string t2, .int .i64 d2] 72)).heap[w.heap.size]? = some (.cells #[.int .i64 k1, .int .i64 n1, .int .u64 (b1 : Int), .string t1, .int .i64 d1] 72 (0, 0)) := (Below.heap_alloc _ _ _ (by simp)).trans (heap_alloc_new w _)
 have hB : (w.alloc (.cells #[.int .i64 k1, .int .i64 n1, .int .u64 (b1 : Int), .string t1, .int .i64 d1] 72) |>.alloc (.cells #[.int .i64 k2, .int .i64 n2, .int .u64 (b2 : Int), .string t2, .int .i64 d2] 72)).heap[w.heap.size + 1]? = some (.cells #[.int .i64 k2, .int .i64 n2, .int .u64 (b2 : Int), .string t2, .int .i64 d2] 72 (0, 0)) := by
  have := heap_alloc_new (w.alloc (.cells #[.int .i64 k1, .int .i64 n1, .int .u64 (b1 : Int), .string t1, .int .i64 d1] 72)) (.cells #[.int .i64 k2, .int .i64 n2, .int .u64 (b2 : Int), .string t2, .int .i64 d2] 72)
  simpa using this
 have hb0 : Below w.heap.size w (w.alloc (.cells #[.int .i64 k1, .int .i64 n1, .int .u64 (b1 : Int), .string t1, .int .i64 d1] 72) |>.alloc (.cells #[.int .i64 k2, .int .i64 n2, .int .u64 (b2 : Int), .string t2, .int .i64 d2] 72)) := ((Below.refl _ _).alloc (Nat.le_refl _) _).alloc (by simp) _
 have hz : w.heap.size + 1 < (w.alloc (.cells #[.int .i64 k1, .int .i64 n1, .int .u64 (b1 : Int), .string t1, .int .i64 d1] 72) |>.alloc (.cells #[.int .i64 k2, .int .i64 n2, .int .u64 (b2 : Int), .string t2, .int .i64 d2] 72)).heap.size := by simp
 generalize (w.alloc (.cells #[.int .i64 k1, .int .i64 n1, .int .u64 (b1 : Int), .string t1, .int .i64 d1] 72) |>.alloc (.cells #[.int .i64 k2, .int .i64 n2, .int .u64 (b2 : Int), .string t2, .int .i64 d2] 72)) = W0 at hA hB hb0 hz ⊢
 have hS : ∀ V, Below W0.heap.size W0 V → V.cell? ⟨w.heap.size, 0, none⟩ = some (.int .i64 k1) ∧ V.cell? ⟨w.heap.size, 1, none⟩ = some (.int .i64 n1) ∧ V.cell? ⟨w.heap.size, 2, none⟩ = some (.int .u64 (b1 : Int)) ∧ V.cell? ⟨w.heap.size, 3, none⟩ = some (.string t1) ∧ V.cell? ⟨w.heap.size + 1, 0, none⟩ = some (.int .i64 k2) ∧ V.cell? ⟨w.heap.size + 1, 1, none⟩ = some (.int .i64 n2) ∧ V.cell? ⟨w.heap.size + 1, 2, none⟩ = some (.int .u64 (b2 : Int)) ∧ V.cell? ⟨w.heap.size + 1, 3, none⟩ = some (.string t2) := fun V hV => by
  have h1 := (hV.block w.heap.size (by omega)).trans hA
  have h2 := (hV.block (w.heap.size + 1) hz).trans hB
  exact ⟨cell_of_row V _ 0 _ _ _ h1, cell_of_row V _ 1 _ _ _ h1, cell_of_row V _ 2 _ _ _ h1, cell_of_row V _ 3 _ _ _ h1, cell_of_row V _ 0 _ _ _ h2, cell_of_row V _ 1 _ _ _ h2, cell_of_row V _ 2 _ _ _ h2, cell_of_row V _ 3 _ _ _ h2⟩
 have d0 : Below W0.heap.size W0 W0.drew := (Below.refl _ _).drew
 have s0 := hS _ d0
 have HS := Lib.hid hS
 have HB0 := Lib.hid hb0
 have HGA := Lib.hid (show ∀ (V : World) (o : Obj), Below W0.heap.size W0 V → Below W0.heap.size W0 (V.alloc o) from fun V o h => h.alloc h.size o)
 clear hA hB hb0 hz hS
 go_region_held3 (fun V => V.cell? ⟨w.heap.size, 0, none⟩ = some (.int .i64 k1) ∧ V.cell? ⟨w.heap.size, 1, none⟩ = some (.int .i64 n1) ∧ V.cell? ⟨w.heap.size, 2, none⟩ = some (.int .u64 (b1 : Int)) ∧ V.cell? ⟨w.heap.size, 3, none⟩ = some (.string t1) ∧ V.cell? ⟨w.heap.size + 1, 0, none⟩ = some (.int .i64 k2) ∧ V.cell? ⟨w.heap.size + 1, 1, none⟩ = some (.int .i64 n2) ∧ V.cell? ⟨w.heap.size + 1, 2, none⟩ = some (.int .u64 (b2 : Int)) ∧ V.cell? ⟨w.heap.size + 1, 3, none⟩ = some (.string t2))
  (first | exact s0 | exact HS.out _ (by assumption) | exact HS.out _ (HGA.out _ _ (by assumption)))
  (first
   | (with_reducible refine (Q.out.1 _).mono ?_; rintro e w1 ⟨rfl, rfl⟩)
   | (with_reducible refine (Q.out.2.1 _).mono ?_; rintro e w1 ⟨rfl, rfl⟩)
   | (with_reducible refine (Q.out.2.2.1 _).mono ?_; rintro e w3 ⟨rfl, hb3'⟩; have hb3 : Below W0.heap.size W0 w3 := d0.trans (hb3'.mono d0.size))
   | (with_reducible refine (Q.out.2.2.2.1 _).mono ?_; rintro e w1 ⟨rfl, rfl⟩)
   | (with_reducible refine (Q.out.2.2.2.2 _).mono ?_; rintro e w1 ⟨rfl, rfl⟩; have hb5 : Below W0.heap.size W0 (w3.alloc (.cells #[.int .i64 o1, .int .i64 o2, .int .i64 o3, .int .i64 o4] 3)) := hb3.alloc hb3.size _))
 go_wp2_with fail
 go_ret
 exact ⟨rfl, HB0.out.trans (hb5.mono HB0.out.size)⟩
end Go.Proofs.YtilbbemdinpjcaaGreat.T
namespace Go.Proofs.YtilbbemdinpjcaaGreat.T
open Go.RowKit
def Lies (w : World) (g : Nat) (cs : Array Value) (t : TypeId) : Prop := w.heap[g]? = some (.cells cs t (0, 0))
theorem Lies.cell {w : World} {g : Nat} {cs : Array Value} {t : TypeId} (h : Lies w g cs t) (j : Nat) {v : Value} (hv : cs[j]? = some v) : w.cell? ⟨g, j, none⟩ = some v := by
 rw [cell_of_row w g j cs t (0, 0) h]; exact hv
theorem Lies.free {w : World} {g : Nat} {cs : Array Value} {t : TypeId} (h : Lies w g cs t) (j : Nat) : w.frozen? ⟨g, j, none⟩ = false := frozen_of_row w g j cs t h
theorem Lies.lt {w : World} {g : Nat} {cs : Array Value} {t : TypeId} (h : Lies w g cs t) : g < w.heap.size := (Array.getElem?_eq_some_iff.1 h).1
theorem Lies.set {w : World} {g : Nat} {cs : Array Value} {t : TypeId} (h : Lies w g cs t) (j : Nat) (v : Value) : Lies (w.setCell ⟨g, j, none⟩ v) g (cs.setIfInBounds j v) t := heap_setCell_same w g j cs t v h
theorem Lies.other {w : World} {g : Nat} {cs : Array Value} {t : TypeId} (h : Lies w g cs t) (a : Addr) (v : Value) (hne : g ≠ a.block) : Lies (w.setCell a v) g cs t := (heap_setCell_other w a g v hne).trans h
theorem Lies.below {B : Nat} {w w' : World} {g : Nat} {cs : Array Value} {t : TypeId} (h : Lies w g cs t) (hb : Below B w w') (hg : g < B) : Lies w' g cs t := (hb.block g hg).trans h
theorem Lies.new (w : World) (cs : Array Value) (t : TypeId) : Lies (w.alloc (.cells cs t)) w.heap.size cs t := heap_alloc_new w _
theorem Lies.alloc {w : World} {g : Nat} {cs : Array Value} {t : TypeId} (h : Lies w g cs t) (o : Obj) : Lies (w.alloc o) g cs t := (Below.heap_alloc w o g h.lt).trans h
def iv (n : Nat) (f : Nat → Nat) : Array Value := ((List.range n).map fun j => Value.int .i64 (f j)).toArray
theorem iv_get (n : Nat) (f : Nat → Nat) (j : Nat) (h : j < n) : (iv n f)[j]? = some (.int .i64 (f j)) := by simp [iv, h]
def upd (f : Nat → Nat) (i x : Nat) : Nat → Nat := fun j => if j = i then x else f j
theorem iv_set (n : Nat) (f : Nat → Nat) (i x : Nat) : (iv n f).setIfInBounds i (.int .i64 x) = iv n (upd f i x) := by
 apply Array.ext'
 simp only [iv, Array.toList_setIfInBounds]
 apply List.ext_getElem?
 intro j
 by_cases hj : j < n
 ·
  rw [List.getElem?_set]
  by_cases e : i = j
  ·
   subst e; simp [hj, upd]
  ·
   have e2 : ¬ j = i := fun h => e h.symm
   simp [e, hj, upd, e2]
 ·
  rw [List.getElem?_eq_none (by simp; omega), List.getElem?_eq_none (by simp; omega)]
def NAt (w : World) (g off : Nat) (ns : List Nd) : Prop := g < w.heap.size ∧ ∀ j (h : j < ns.length) i v, (ns[j]).cells[i]? = some v → w.cell? ⟨g, off + j * 5 + i, none⟩ = some v
theorem NAt.below {B : Nat} {w w' : World} {g off : Nat} {ns : List Nd} (h : NAt w g off ns) (hb : Below B w w') (hg : g < B) : NAt w' g off ns :=
 ⟨Nat.lt_of_lt_of_le h.1 hb.size, fun j hj i v hv => (hb.cell (p := ⟨g, off + j * 5 + i, none⟩) hg).trans (h.2 j hj i v hv)⟩
def walk (E D : Nat → Nat) (n : Nat) : Nat → Nat × Nat → Option (Nat × Nat)
  | 0, s => some s
  | k + 1, s => match walk E D n k s with
    | none => none
    | some (a, m) => if a = n then none else some (E a, max m (D a))
def ThrownT (e : Ending) : Prop := ∃ v, e = .panicked [{ v := .iface 64 v, recovered := false }]
theorem size_set (w : World) (a : Addr) (v : Value) : (w.setCell a v).heap.size = w.heap.size := by simp [World.setCell]
theorem below_drewN {B : Nat} {w w' : World} (h : Below B w w') (n : Nat) : Below B w (w'.drewN n) := ⟨h.os, h.tape, h.output, h.size, h.block⟩
theorem walk_le {E D : Nat → Nat} {n : Nat} (hE : ∀ j, E j ≤ n) (hD : ∀ j, D j ≤ n) : ∀ (k : Nat) (s : Nat × Nat) (a m : Nat), s.1 ≤ n → s.2 ≤ n → walk E D n k s = some (a, m) → a ≤ n ∧ m ≤ n
  | 0, s, a, m, h1, h2, h => by
    simp only [walk, Option.some.injEq] at h
    subst h
    exact ⟨h1, h2⟩
  | k + 1, s, a, m, h1, h2, h => by
    simp only [walk] at h
    cases hk : walk E D n k s with
    | none => rw [hk] at h; cases h
    | some x =>
      obtain ⟨a0, m0⟩ := x
      rw [hk] at h
      have ih := walk_le hE hD k s a0 m0 h1 h2 hk
      simp only at h
      split at h
      · cases h
      · cases h
        exact ⟨hE _, by have := hD a0; omega⟩
theorem walk_some {E D : Nat → Nat} {n k K : Nat} {s : Nat × Nat} {x : Nat × Nat} (h : walk E D n K s = some x) (hk : k ≤ K) : ∃ a m, walk E D n k s = some (a, m) ∧ (k < K → a ≠ n ∧ walk E D n (k + 1) s = some (E a, max m (D a))) := by
  induction K generalizing x with
  | zero =>
    obtain rfl : k = 0 := by omega
    exact ⟨s.1, s.2, rfl, fun h => by omega⟩
  | succ K ih =>
    simp only [walk] at h
    cases hK : walk E D n K s with
    | none => rw [hK] at h; cases h
    | some y =>
      obtain ⟨a0, m0⟩ := y
      rw [hK] at h
      simp only at h
      by_cases e : k = K + 1
      · subst e
        refine ⟨x.1, x.2, ?_, fun h => by omega⟩
        simp only [walk, hK]
        exact h
      · by_cases e2 : k = K
        · subst e2
          refine ⟨a0, m0, hK, fun _ => ?_⟩
          split at h
          · cases h
          · rename_i hne
            refine ⟨hne, ?_⟩
            simp only [walk, hK]
            rw [if_neg hne]
        · obtain ⟨a, m, h1, h2⟩ := ih hK (by omega)
          exact ⟨a, m, h1, fun _ => h2 (by omega)⟩
theorem walk_none {E D : Nat → Nat} {n : Nat} {s : Nat × Nat} : ∀ {K : Nat}, walk E D n K s = none → ∃ r m, r < K ∧ walk E D n r s = some (n, m)
  | 0, h => by simp [walk] at h
  | K + 1, h => by
    simp only [walk] at h
    cases hK : walk E D n K s with
    | none =>
      obtain ⟨r, m, h1, h2⟩ := walk_none hK
      exact ⟨r, m, by omega, h2⟩
    | some y =>
      obtain ⟨a0, m0⟩ := y
      rw [hK] at h
      simp only at h
      split at h
      · rename_i e
        subst e
        exact ⟨K, m0, by omega, hK⟩
      · cases h
set_option maxRecDepth 100000 in
theorem set_ok (n g off nc gE cE gD cD i at' m' : Nat) (K : Int) (E D : Nat → Nat) (w : World) (hi : i < n) (hkc : w.cell? ⟨g, off + i * 5 + 4, none⟩ = some (.int .i64 K)) (hg : g < w.heap.size) (hE : Lies w gE (iv n E) 3) (hD : Lies w gD (iv n D) 3) (hne : gE ≠ gD) (hsz : n ≤ 1000000)
  (hEb : ∀ j, E j ≤ n) (hDb : ∀ j, D j ≤ n) (hk : 0 ≤ K) (hk63 : K ≤ 9223372036854775807) (hw : walk E D n K.toNat (i + 1, 0) = some (at', m')) :
  Calls Tryz.prog 278 #[.agg #[.slice (some ⟨g, off, none⟩) n nc, .slice (some ⟨gE, 0, none⟩) n cE, .slice (some ⟨gD, 0, none⟩) n cD], .int .i64 i] w fun e w' => e = .returned (.tuple #[]) ∧
   Lies w' gE (iv n (upd E i at')) 3 ∧ Lies w' gD (iv n (upd D i (m' + 1))) 3 ∧ (∀ B, B ≤ gE → B ≤ gD → Below B w w') ∧ ∀ k, k < w.heap.size → k ≠ gE → k ≠ gD → w'.heap[k]? = w.heap[k]? := by
 have i0 : (0 : Int) ≤ (i : Int) := by omega
 have i1 : (i : Int) < (n : Int) := by omega
 have n1 : (n : Int) ≤ 1000000 := by omega
 have k0 : ¬ K < 0 := by omega
 have H := Lib.hid (And.intro hE (And.intro hD (And.intro hne (And.intro hEb (And.intro hDb (And.intro hw (And.intro hi (And.intro hk (And.intro hg (And.intro hkc hsz))))))))))
 clear hE hD hne hEb hDb hw hi hk hg hkc hsz
 go_enter Tryz.func278, Tryz.ntmps278
 go_upto_region 1 with fail
 have hA : Lies (w.alloc (.cells #[.slice (some ⟨g, off, none⟩) n nc, .slice (some ⟨gE, 0, none⟩) n cE, .slice (some ⟨gD, 0, none⟩) n cD] 279)) w.heap.size #[.slice (some ⟨g, off, none⟩) n nc, .slice (some ⟨gE, 0, none⟩) n cE, .slice (some ⟨gD, 0, none⟩) n cD] 279 := Lies.new _ _ _
 have hb0 : Below w.heap.size w (w.alloc (.cells #[.slice (some ⟨g, off, none⟩) n nc, .slice (some ⟨gE, 0, none⟩) n cE, .slice (some ⟨gD, 0, none⟩) n cD] 279)) := (Below.refl _ _).alloc (Nat.le_refl _) _
 generalize w.alloc (.cells #[.slice (some ⟨g, off, none⟩) n nc, .slice (some ⟨gE, 0, none⟩) n cE, .slice (some ⟨gD, 0, none⟩) n cD] 279) = W0 at hA hb0 ⊢
 have hall : ∀ V, Below W0.heap.size W0 V → V.cell? ⟨w.heap.size, 0, none⟩ = some (.slice (some ⟨g, off, none⟩) n nc) ∧ V.cell? ⟨w.heap.size, 1, none⟩ = some (.slice (some ⟨gE, 0, none⟩) n cE) ∧ V.cell? ⟨w.heap.size, 2, none⟩ = some (.slice (some ⟨gD, 0, none⟩) n cD) ∧
   V.cell? ⟨g, off + i * 5 + 4, none⟩ = some (.int .i64 K) ∧ Lies V gE (iv n E) 3 ∧ Lies V gD (iv n D) 3 ∧ Below w.heap.size w V := fun V hV => by
  have hbw := hb0.trans (hV.mono hb0.size)
  have hA' := hA.below hV hA.lt
  exact ⟨hA'.cell 0 rfl, hA'.cell 1 rfl, hA'.cell 2 rfl, (hbw.cell (p := ⟨g, off + i * 5 + 4, none⟩) H.out.2.2.2.2.2.2.2.2.1).trans H.out.2.2.2.2.2.2.2.2.2.1, H.out.1.below hbw H.out.1.lt, H.out.2.1.below hbw H.out.2.1.lt, hbw⟩
 have h0 := hall _ (Below.refl _ _)
 have s0 := h0.1
 have s3 := h0.2.2.2.1
 have HALL := Lib.hid hall
 clear hA hb0 hall h0
 go_wp2_with fail
 clear s0 s3
 go_loopw [4, 5, 22] (fun a m k W => ∃ (x y : Nat) (q : Nat), (q : Int) ≤ K ∧ a = .int .i64 x ∧ m = .int .i64 y ∧ k = .int .i64 q ∧ walk E D n q (i + 1, 0) = some (x, y) ∧ Below W0.heap.size W0 W) (fun _ _ k _ => (K - intOf k).toNat)
 case atStart => exact ⟨i + 1, 0, 0, by have := H.out.2.2.2.2.2.2.2.1; omega, by go_num, rfl, rfl, rfl, Below.refl _ _⟩
 case round =>
  obtain ⟨x, y, q, hq, rfl, rfl, rfl, hwk, hbr⟩ := hrel
  have hbd := walk_le H.out.2.2.2.1 H.out.2.2.2.2.1 q (i + 1, 0) x y (by have := H.out.2.2.2.2.2.2.1; simp; omega) (Nat.zero_le _) hwk
  by_cases hlt : (q : Int) < K
  ·
   obtain ⟨a1, m1, h1, h2⟩ := walk_some H.out.2.2.2.2.2.1 (k := q) (by omega)
   rw [hwk] at h1
   cases h1
   obtain ⟨hxn, hw2⟩ := h2 (by omega)
   have hx := HALL.out _ hbr
   have s0 := hx.1
   have s1 := hx.2.1
   have s2 := hx.2.2.1
   have cE' := hx.2.2.2.2.1.cell x (iv_get n E x (by omega))
   have cD' := hx.2.2.2.2.2.1.cell x (iv_get n D x (by omega))
   obtain ⟨ex, hex⟩ : ∃ e, e = E x := ⟨_, rfl⟩
   obtain ⟨dx, hdx⟩ : ∃ e, e = D x := ⟨_, rfl⟩
   rw [← hex] at cE' hw2
   rw [← hdx] at cD' hw2
   have j1 : (x : Int) < (n : Int) := by omega
   have j0 : (0 : Int) ≤ (x : Int) := by omega
   have j2 : ((x : Int) == (n : Int)) = false := by rw [beq_eq_false_iff_ne]; omega
   have j3 : (x == n) = false := by rw [beq_eq_false_iff_ne]; exact hxn
   have HR := Lib.hid (And.intro hbr (And.intro hw2 hq))
   clear hx hbr hw2 hwk hex hdx hbd hxn hq h2
   go_wp2_with fail
   go_quiet (fail)
   go_wp2_with fail
   have hq := HR.out.2.2
   refine ⟨⟨ex, max y dx, q + 1, by omega, rfl, ?_, by go_num, HR.out.2.1, below_drewN HR.out.1 _⟩, ?_⟩
   ·
    refine congrArg (Value.int .i64) ?_
    split <;> omega
   ·
    simp [intOf]; omega
  ·
   have hqk : (q : Int) = K := by omega
   have hqn : q = K.toNat := by omega
   rw [hqn, H.out.2.2.2.2.2.1] at hwk
   cases hwk
   have hx := HALL.out _ hbr
   have s1 := hx.2.1
   have s2 := hx.2.2.1
   have cE' := hx.2.2.2.2.1.cell i (iv_get n E i H.out.2.2.2.2.2.2.1)
   have cD' := hx.2.2.2.2.2.1.cell i (iv_get n D i H.out.2.2.2.2.2.2.1)
   have fE' := hx.2.2.2.2.1.free i
   have fD' := hx.2.2.2.2.2.1.free i
   have HX := Lib.hid hx
   have j3 : ¬ (q : Int) < K := by omega
   have j4 : decide ((q : Int) < K) = false := by simp; omega
   have hm1 : IntKind.i64.wrap ((m' : Int) + 1) = ((m' + 1 : Nat) : Int) := by rw [IntKind.wrap_i64]; omega
   clear hx hbr hlt hq hqk hqn
   have e1 : ¬ gE = gD := H.out.2.2.1
   have e2 : ¬ gD = gE := fun e => H.out.2.2.1 e.symm
   have l1 := H.out.1.lt
   have l2 := H.out.2.1.lt
   have e3 : ¬ gE = w.heap.size := by omega
   have e4 : ¬ w.heap.size = gE := by omega
   have e5 : ¬ gD = w.heap.size := by omega
   have e6 : ¬ w.heap.size = gD := by omega
   go_upto_region 10 with fail
   clear l1 l2
   go_region
   have hl := HX.out
   have f1 : Lies (wr.setCell ⟨gE, i, none⟩ (.int .i64 at')) gE (iv n (upd E i at')) 3 := by rw [← iv_set]; exact hl.2.2.2.2.1.set i _
   have f2 : Lies (wr.setCell ⟨gE, i, none⟩ (.int .i64 at')) gD (iv n D) 3 := hl.2.2.2.2.2.1.other _ _ (fun e => e2 e)
   have g1 : Lies ((wr.setCell ⟨gE, i, none⟩ (.int .i64 at')).setCell ⟨gD, i, none⟩ (.int .i64 ((m' : Int) + 1))) gE (iv n (upd E i at')) 3 := f1.other _ _ (fun e => e1 e)
   have g2 : Lies ((wr.setCell ⟨gE, i, none⟩ (.int .i64 at')).setCell ⟨gD, i, none⟩ (.int .i64 ((m' : Int) + 1))) gD (iv n (upd D i (m' + 1))) 3 := by
    rw [← iv_set, show ((m' + 1 : Nat) : Int) = (m' : Int) + 1 by omega]
    exact f2.set i _
   have g3 : ∀ B, B ≤ gE → B ≤ gD → Below B w ((wr.setCell ⟨gE, i, none⟩ (.int .i64 at')).setCell ⟨gD, i, none⟩ (.int .i64 ((m' : Int) + 1))) := fun B b1 b2 =>
    ((hl.2.2.2.2.2.2.mono (by have := H.out.1.lt; omega)).setCell (p := ⟨gE, i, none⟩) b1 _).setCell (p := ⟨gD, i, none⟩) b2 _
   have g4 : ∀ k, k < w.heap.size → k ≠ gE → k ≠ gD → ((wr.setCell ⟨gE, i, none⟩ (.int .i64 at')).setCell ⟨gD, i, none⟩ (.int .i64 ((m' : Int) + 1))).heap[k]? = w.heap[k]? := fun k h1 h2 h3 =>
    (heap_setCell_other _ ⟨gD, i, none⟩ k _ h3).trans ((heap_setCell_other _ ⟨gE, i, none⟩ k _ h2).trans (hl.2.2.2.2.2.2.block k h1))
   go_end0
   exact ⟨rfl, g1, g2, fun B b1 b2 => (g3 B b1 b2).drew, g4⟩
set_option maxRecDepth 100000 in
theorem set_bad (n g off nc gE cE gD cD i : Nat) (K : Int) (E D : Nat → Nat) (w : World) (hi : i < n) (hkc : w.cell? ⟨g, off + i * 5 + 4, none⟩ = some (.int .i64 K)) (hg : g < w.heap.size) (hE : Lies w gE (iv n E) 3) (hD : Lies w gD (iv n D) 3) (hne : gE ≠ gD) (hsz : n ≤ 1000000)
  (hEb : ∀ j, E j ≤ n) (hDb : ∀ j, D j ≤ n) (hk63 : K ≤ 9223372036854775807) (hw : K < 0 ∨ 0 ≤ K ∧ walk E D n K.toNat (i + 1, 0) = none) :
  Calls Tryz.prog 278 #[.agg #[.slice (some ⟨g, off, none⟩) n nc, .slice (some ⟨gE, 0, none⟩) n cE, .slice (some ⟨gD, 0, none⟩) n cD], .int .i64 i] w fun e w' => ThrownT e ∧ Below w.heap.size w w' := by
 have i0 : (0 : Int) ≤ (i : Int) := by omega
 have i1 : (i : Int) < (n : Int) := by omega
 have n1 : (n : Int) ≤ 1000000 := by omega
 have H := Lib.hid (And.intro hE (And.intro hD (And.intro hne (And.intro hEb (And.intro hDb (And.intro hw (And.intro hi (And.intro trivial (And.intro hg (And.intro hkc hsz))))))))))
 clear hE hD hne hEb hDb hw hi hg hkc hsz
 go_enter Tryz.func278, Tryz.ntmps278
 go_upto_region 1 with fail
 have hA : Lies (w.alloc (.cells #[.slice (some ⟨g, off, none⟩) n nc, .slice (some ⟨gE, 0, none⟩) n cE, .slice (some ⟨gD, 0, none⟩) n cD] 279)) w.heap.size #[.slice (some ⟨g, off, none⟩) n nc, .slice (some ⟨gE, 0, none⟩) n cE, .slice (some ⟨gD, 0, none⟩) n cD] 279 := Lies.new _ _ _
 have hb0 : Below w.heap.size w (w.alloc (.cells #[.slice (some ⟨g, off, none⟩) n nc, .slice (some ⟨gE, 0, none⟩) n cE, .slice (some ⟨gD, 0, none⟩) n cD] 279)) := (Below.refl _ _).alloc (Nat.le_refl _) _
 generalize w.alloc (.cells #[.slice (some ⟨g, off, none⟩) n nc, .slice (some ⟨gE, 0, none⟩) n cE, .slice (some ⟨gD, 0, none⟩) n cD] 279) = W0 at hA hb0 ⊢
 have hall : ∀ V, Below W0.heap.size W0 V → V.cell? ⟨w.heap.size, 0, none⟩ = some (.slice (some ⟨g, off, none⟩) n nc) ∧ V.cell? ⟨w.heap.size, 1, none⟩ = some (.slice (some ⟨gE, 0, none⟩) n cE) ∧ V.cell? ⟨w.heap.size, 2, none⟩ = some (.slice (some ⟨gD, 0, none⟩) n cD) ∧
   V.cell? ⟨g, off + i * 5 + 4, none⟩ = some (.int .i64 K) ∧ Lies V gE (iv n E) 3 ∧ Lies V gD (iv n D) 3 ∧ Below w.heap.size w V := fun V hV => by
  have hbw := hb0.trans (hV.mono hb0.size)
  have hA' := hA.below hV hA.lt
  exact ⟨hA'.cell 0 rfl, hA'.cell 1 rfl, hA'.cell 2 rfl, (hbw.cell (p := ⟨g, off + i * 5 + 4, none⟩) H.out.2.2.2.2.2.2.2.2.1).trans H.out.2.2.2.2.2.2.2.2.2.1, H.out.1.below hbw H.out.1.lt, H.out.2.1.below hbw H.out.2.1.lt, hbw⟩
 have h0 := hall _ (Below.refl _ _)
 have s0 := h0.1
 have s3 := h0.2.2.2.1
 have HALL := Lib.hid hall
 have HB0 := Lib.hid h0.2.2.2.2.2.2
 clear hA hb0 hall h0
 rcases H.out.2.2.2.2.2.1 with hneg | ⟨hk, hw⟩
 ·
  go_wp2_with fail
  exact ⟨rfl, ⟨_, rfl⟩, HB0.out⟩
 ·
  obtain ⟨r, mr, hr, hwr⟩ := walk_none hw
  have HW := Lib.hid (And.intro hr (And.intro hwr hk))
  have k0 : ¬ K < 0 := by omega
  clear hr hwr hw hk
  go_wp2_with fail
  clear s0 s3
  go_loopw [4, 5, 22] (fun a m k W => ∃ (x y : Nat) (q : Nat), q ≤ r ∧ a = .int .i64 x ∧ m = .int .i64 y ∧ k = .int .i64 q ∧ walk E D n q (i + 1, 0) = some (x, y) ∧ Below W0.heap.size W0 W) (fun _ _ k _ => (K - intOf k).toNat)
  case atStart => exact ⟨i + 1, 0, 0, by omega, by go_num, rfl, rfl, rfl, Below.refl _ _⟩
  case round =>
   obtain ⟨x, y, q, hq, rfl, rfl, rfl, hwk, hbr⟩ := hrel
   have hbd := walk_le H.out.2.2.2.1 H.out.2.2.2.2.1 q (i + 1, 0) x y (by have := H.out.2.2.2.2.2.2.1; simp; omega) (Nat.zero_le _) hwk
   have hqK : (q : Int) < K := by have := HW.out.1; have := HW.out.2.2; omega
   have hx := HALL.out _ hbr
   have s0 := hx.1
   by_cases hlt : q < r
   ·
    obtain ⟨a1, m1, h1, h2⟩ := walk_some HW.out.2.1 (k := q) (by omega)
    rw [hwk] at h1
    cases h1
    obtain ⟨hxn, hw2⟩ := h2 (by omega)
    have s1 := hx.2.1
    have s2 := hx.2.2.1
    have cE' := hx.2.2.2.2.1.cell x (iv_get n E x (by omega))
    have cD' := hx.2.2.2.2.2.1.cell x (iv_get n D x (by omega))
    obtain ⟨ex, hex⟩ : ∃ e, e = E x := ⟨_, rfl⟩
    obtain ⟨dx, hdx⟩ : ∃ e, e = D x := ⟨_, rfl⟩
    rw [← hex] at cE' hw2
    rw [← hdx] at cD' hw2
    have j1 : (x : Int) < (n : Int) := by omega
    have j0 : (0 : Int) ≤ (x : Int) := by omega
    have j2 : ((x : Int) == (n : Int)) = false := by rw [beq_eq_false_iff_ne]; omega
    have j3 : (x == n) = false := by rw [beq_eq_false_iff_ne]; exact hxn
    have HR := Lib.hid (And.intro hbr (And.intro hw2 (And.intro hq (And.intro hqK hlt))))
    clear hx hbr hw2 hwk hex hdx hbd hxn hq h2 hlt
    go_wp2_with fail
    go_quiet (fail)
    go_wp2_with fail
    have hq := HR.out.2.2
    refine ⟨⟨ex, max y dx, q + 1, by omega, rfl, ?_, by go_num, HR.out.2.1, below_drewN HR.out.1 _⟩, ?_⟩
    ·
     refine congrArg (Value.int .i64) ?_
     split <;> omega
    ·
     simp [intOf]; omega
   ·
    obtain rfl : q = r := by omega
    rw [HW.out.2.1] at hwk
    cases hwk
    have hfin := hx.2.2.2.2.2.2
    clear hx hbr hbd hlt hq
    go_wp2_with fail
    exact ⟨rfl, ⟨_, rfl⟩, hfin⟩
end Go.Proofs.YtilbbemdinpjcaaGreat.T
