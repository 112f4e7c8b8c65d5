/-
  Nodes as plain data; what two nodes are beside their kids.
-/
import Derived.Test.YtilbbemdinpjcaaGreatJTFOrder
import Derived.Laws.IdiomStrings
import Derived.Deep.RegionHeld3
import Derived.Lib.Hide
namespace Go.Proofs.YtilbbemdinpjcaaGreat.T
open Go.RowKit

theorem cmpnanN_any (x : Int) (w : World) : Calls Tryz.prog 144 #[.int .i64 x] w fun e w' => e = .returned (.bool false) ∧ w = w' := by
  have h : (x != x) = false := by simp
  go_enter Tryz.func144, Tryz.ntmps144
  go_wp2
  go_ret
  exact ⟨rfl, rfl⟩
theorem compareN_any (w : World) (x y : Int) : Calls Tryz.prog 78 #[.int .i64 x, .int .i64 y] w fun e w' => e = .returned (.int .i64 (cmpI x y)) ∧ w = w' := by
  have c1 := cmpnanN_any x w
  have c2 := cmpnanN_any y w
  obtain ⟨m, hm⟩ : ∃ m, m = cmpI x y := ⟨_, rfl⟩
  rw [← hm]
  unfold cmpI at hm
  by_cases h1 : x < y
  · rw [if_pos h1] at hm
    have HM := Lib.hid hm
    clear hm
    go_enter Tryz.func78, Tryz.ntmps78
    go_wp2_with fail
    refine c1.mono ?_
    rintro e w' ⟨rfl, rfl⟩
    go_wp2_with fail
    refine c2.mono ?_
    rintro e w' ⟨rfl, rfl⟩
    clear c1 c2
    go_wp2_with fail
    go_ret
    exact ⟨ret_i HM.out.symm, rfl⟩
  · rw [if_neg h1] at hm
    by_cases h2 : y < x
    · rw [if_pos h2] at hm
      have HM := Lib.hid hm
      clear hm
      go_enter Tryz.func78, Tryz.ntmps78
      go_wp2_with fail
      refine c1.mono ?_
      rintro e w' ⟨rfl, rfl⟩
      go_wp2_with fail
      refine c2.mono ?_
      rintro e w' ⟨rfl, rfl⟩
      clear c1 c2
      go_wp2_with fail
      go_ret
      exact ⟨ret_i HM.out.symm, rfl⟩
    · rw [if_neg h2] at hm
      have HM := Lib.hid hm
      clear hm
      go_enter Tryz.func78, Tryz.ntmps78
      go_wp2_with fail
      refine c1.mono ?_
      rintro e w' ⟨rfl, rfl⟩
      go_wp2_with fail
      refine c2.mono ?_
      rintro e w' ⟨rfl, rfl⟩
      clear c1 c2
      go_wp2_with fail
      go_ret
      exact ⟨ret_i HM.out.symm, rfl⟩
theorem cmpnanK_any (x : Int) (w : World) : Calls Tryz.prog 323 #[.int .i64 x] w fun e w' => e = .returned (.bool false) ∧ w = w' := by
  have h : (x != x) = false := by simp
  go_enter Tryz.func323, Tryz.ntmps323
  go_wp2
  go_ret
  exact ⟨rfl, rfl⟩
theorem compareK_any (w : World) (x y : Int) : Calls Tryz.prog 318 #[.int .i64 x, .int .i64 y] w fun e w' => e = .returned (.int .i64 (cmpI x y)) ∧ w = w' := by
  have c1 := cmpnanK_any x w
  have c2 := cmpnanK_any y w
  obtain ⟨m, hm⟩ : ∃ m, m = cmpI x y := ⟨_, rfl⟩
  rw [← hm]
  unfold cmpI at hm
  by_cases h1 : x < y
  · rw [if_pos h1] at hm
    have HM := Lib.hid hm
    clear hm
    go_enter Tryz.func318, Tryz.ntmps318
    go_wp2_with fail
    refine c1.mono ?_
    rintro e w' ⟨rfl, rfl⟩
    go_wp2_with fail
    refine c2.mono ?_
    rintro e w' ⟨rfl, rfl⟩
    clear c1 c2
    go_wp2_with fail
    go_ret
    exact ⟨ret_i HM.out.symm, rfl⟩
  · rw [if_neg h1] at hm
    by_cases h2 : y < x
    · rw [if_pos h2] at hm
      have HM := Lib.hid hm
      clear hm
      go_enter Tryz.func318, Tryz.ntmps318
      go_wp2_with fail
      refine c1.mono ?_
      rintro e w' ⟨rfl, rfl⟩
      go_wp2_with fail
      refine c2.mono ?_
      rintro e w' ⟨rfl, rfl⟩
      clear c1 c2
      go_wp2_with fail
      go_ret
      exact ⟨ret_i HM.out.symm, rfl⟩
    · rw [if_neg h2] at hm
      have HM := Lib.hid hm
      clear hm
      go_enter Tryz.func318, Tryz.ntmps318
      go_wp2_with fail
      refine c1.mono ?_
      rintro e w' ⟨rfl, rfl⟩
      go_wp2_with fail
      refine c2.mono ?_
      rintro e w' ⟨rfl, rfl⟩
      clear c1 c2
      go_wp2_with fail
      go_ret
      exact ⟨ret_i HM.out.symm, rfl⟩

theorem cmpnanS_any (x : ByteArray) (w : World) : Calls Tryz.prog 286 #[.string x] w fun e w' => e = .returned (.bool false) ∧ w = w' := by
  go_enter Tryz.func286, Tryz.ntmps286
  go_wp2
  go_ret
  exact ⟨rfl, rfl⟩
def cmpS (x y : ByteArray) : Int := if Op.bytesLess x.toList y.toList = true then -1 else if (x.toList == y.toList) = true then 0 else 1
set_option maxHeartbeats 400000 in
theorem compareS_any (w : World) (x y : ByteArray) : Calls Tryz.prog 261 #[.string x, .string y] w fun e w' => e = .returned (.int .i64 (cmpS x y)) ∧ w = w' := by
  have c1 := cmpnanS_any x w
  have c2 := cmpnanS_any y w
  obtain ⟨m, hm⟩ : ∃ m, m = cmpS x y := ⟨_, rfl⟩
  rw [← hm]
  unfold cmpS at hm
  have HM := Lib.hid hm
  clear hm
  go_enter Tryz.func261, Tryz.ntmps261
  go_wp2_with fail
  refine c1.mono ?_
  rintro e w' ⟨rfl, rfl⟩
  go_wp2_with fail
  refine c2.mono ?_
  rintro e w' ⟨rfl, rfl⟩
  clear c1 c2
  go_wp2_with fail
  all_goals (go_ret; have hm := HM.out; exact ⟨ret_i (by rw [hm]; simp_all), rfl⟩)
/-- The first that is not 0. -/
def firstNZ : List Int → Int
  | [] => 0
  | x :: l => if x = 0 then firstNZ l else x
theorem firstNZ_at : ∀ (xs : List Int) (k : Nat), (∀ j, j < k → xs.getD j 0 = 0) → k < xs.length → xs.getD k 0 ≠ 0 → firstNZ xs = xs.getD k 0
  | [], k, _, h, _ => by simp at h
  | x :: l, 0, _, _, h => by simp at h ⊢; simp [firstNZ, h]
  | x :: l, k + 1, h0, h1, h2 => by
    have hx : x = 0 := by have := h0 0 (by omega); simpa using this
    have ih := firstNZ_at l k (fun j hj => by have := h0 (j + 1) (by omega); simpa using this) (by simpa using h1) (by simpa using h2)
    unfold firstNZ
    rw [if_pos hx, ih]
    simp
theorem firstNZ_none : ∀ (xs : List Int), (∀ j, j < xs.length → xs.getD j 0 = 0) → firstNZ xs = 0
  | [], _ => rfl
  | x :: l, h => by
    have hx : x = 0 := by have := h 0 (by simp); simpa using this
    unfold firstNZ
    rw [if_pos hx, firstNZ_none l fun j hj => by have := h (j + 1) (by simp; omega); simpa using this]
theorem or_any (xs : List Int) (g c : Nat) (w : World) (hc : ∀ j, j < xs.length → w.cell? ⟨g, j, none⟩ = some (.int .i64 (xs.getD j 0))) (hl : xs.length ≤ 100) :
    Calls Tryz.prog 76 #[.slice (some ⟨g, 0, none⟩) xs.length c] w fun e w' => e = .returned (.int .i64 (firstNZ xs)) ∧ w = w' := by
  have HC := Lib.hid hc
  clear hc
  go_enter Tryz.func76, Tryz.ntmps76
  go_wp2_with fail
  go_loop [8] (fun i => ∃ k : Nat, k ≤ xs.length ∧ i = .int .i64 k ∧ ∀ j, j < k → xs.getD j 0 = 0) (fun i => xs.length - (intOf i).toNat)
  case atStart => exact ⟨0, Nat.zero_le _, rfl, fun j hj => by omega⟩
  case round =>
    obtain ⟨k, hk, rfl, hz⟩ := hrel
    have HZ := Lib.hid hz
    clear hz
    by_cases hlt : k < xs.length
    · have cc := HC.out k hlt
      obtain ⟨x, hx⟩ : ∃ x, x = xs.getD k 0 := ⟨_, rfl⟩
      rw [← hx] at cc
      have HX := Lib.hid hx
      clear hx
      by_cases h0 : x = 0
      · subst h0
        go_wp2_with fail
        go_round
        case rel => exact ⟨k + 1, by omega, by go_num, fun j hj => by
          by_cases e : j = k
          · rw [e]; exact HX.out.symm
          · exact HZ.out j (by omega)⟩
        case measure => simp [intOf]; omega
      · have hb : (x != 0) = true := by rw [bne_iff_ne]; exact h0
        go_wp2_with fail
        go_ret
        have hx := HX.out
        exact ⟨ret_i (by rw [firstNZ_at xs k HZ.out hlt (by rw [← hx]; exact h0), hx]), rfl⟩
    · have hkl : k = xs.length := by omega
      have he : decide (k < xs.length) = false := by simpa using hlt
      go_wp2_with fail
      go_ret
      exact ⟨ret_i (firstNZ_none xs (by rw [← hkl]; exact HZ.out)).symm, rfl⟩
end Go.Proofs.YtilbbemdinpjcaaGreat.T
namespace Go.Proofs.YtilbbemdinpjcaaGreat.T
open Go.RowKit

structure Nd where
  kind : Int
  num : Int
  bits : Nat
  txt : ByteArray
  kids : Int
def Nd.cells (n : Nd) : Array Value := #[.int .i64 n.kind, .int .i64 n.num, .int .u64 n.bits, .string n.txt, .int .i64 n.kids]
def partO (a b : Nd) : Int := firstNZ [cmpI a.kind b.kind, cmpI a.num b.num, ordC a.bits b.bits, cmpS a.txt b.txt]
set_option maxRecDepth 100000 in
set_option maxHeartbeats 1000000 in
theorem parts_any (a b : Nd) (w : World) : Calls Tryz.prog 312 #[.agg a.cells, .agg b.cells] w fun e w' => e = .returned (.int .i64 (partO a b)) ∧ Below w.heap.size w w' := by
  obtain ⟨k1, n1, b1, t1, d1⟩ := a
  obtain ⟨k2, n2, b2, t2, d2⟩ := b
  obtain ⟨r, hr⟩ : ∃ r, r = partO ⟨k1, n1, b1, t1, d1⟩ ⟨k2, n2, b2, t2, d2⟩ := ⟨_, rfl⟩
  rw [← hr]
  unfold partO at hr
  simp only at hr
  obtain ⟨o1, ho1⟩ : ∃ o, o = cmpI k1 k2 := ⟨_, rfl⟩
  obtain ⟨o2, ho2⟩ : ∃ o, o = cmpI n1 n2 := ⟨_, rfl⟩
  obtain ⟨o3, ho3⟩ : ∃ o, o = ordC b1 b2 := ⟨_, rfl⟩
  obtain ⟨o4, ho4⟩ : ∃ o, o = cmpS t1 t2 := ⟨_, rfl⟩
  rw [← ho1, ← ho2, ← ho3, ← ho4] at hr
  have q1 : ∀ V, Calls Tryz.prog 318 #[.int .i64 k1, .int .i64 k2] V fun e w' => e = .returned (.int .i64 o1) ∧ V = w' := fun V => by rw [ho1]; exact compareK_any V k1 k2
  have q2 : ∀ V, Calls Tryz.prog 319 #[.int .i64 n1, .int .i64 n2] V fun e w' => e = .returned (.int .i64 o2) ∧ V = w' := fun V => by rw [ho2]; exact compareI_any V n1 n2
  have q3 : ∀ V, Calls Tryz.prog 320 #[.int .u64 b1, .int .u64 b2] V fun e w' => e = .returned (.int .i64 o3) ∧ Below V.heap.size V w' := fun V => by rw [ho3]; exact order_any V b1 b2
  have q4 : ∀ V, Calls Tryz.prog 261 #[.string t1, .string t2] V fun e w' => e = .returned (.int .i64 o4) ∧ V = w' := fun V => by rw [ho4]; exact compareS_any V t1 t2
  have q5 : ∀ (V : World), Calls Tryz.prog 76 #[.slice (some ⟨V.heap.size, 0, none⟩) 4 4] (V.alloc (.cells #[.int .i64 o1, .int .i64 o2, .int .i64 o3, .int .i64 o4] 3)) fun e w' => e = .returned (.int .i64 r) ∧ V.alloc (.cells #[.int .i64 o1, .int .i64 o2, .int .i64 o3, .int .i64 o4] 3) = w' := fun V => by
    have := or_any [o1, o2, o3, o4] V.heap.size 4 (V.alloc (.cells #[.int .i64 o1, .int .i64 o2, .int .i64 o3, .int .i64 o4] 3)) (fun j hj => by
      have : j = 0 ∨ j = 1 ∨ j = 2 ∨ j = 3 := by simp at hj; omega
      rcases this with rfl | rfl | rfl | rfl <;> simp [go_sem]) (by simp)
    rw [hr]; exact this
  have Q := Lib.hid (And.intro q1 (And.intro q2 (And.intro q3 (And.intro q4 q5))))
  clear q1 q2 q3 q4 q5 hr ho1 ho2 ho3 ho4
  unfold Nd.cells
  go_enter Tryz.func312, Tryz.ntmps312
  go_upto_region 1 with fail
  have hA : (w.alloc (.cells #[.int .i64 k1, .int .i64 n1, .int .u64 (b1 : Int), .string t1, .int .i64 d1] 72) |>.alloc (.cells #[.int .i64 k2, .int .i64 n2, .int .u64 (b2 : Int), .string t2, .int .i64 d2] 72)).heap[w.heap.size]? = some (.cells #[.int .i64 k1, .int .i64 n1, .int .u64 (b1 : Int), .string t1, .int .i64 d1] 72 (0, 0)) := (Below.heap_alloc _ _ _ (by simp)).trans (heap_alloc_new w _)
  have hB : (w.alloc (.cells #[.int .i64 k1, .int .i64 n1, .int .u64 (b1 : Int), .string t1, .int .i64 d1] 72) |>.alloc (.cells #[.int .i64 k2, .int .i64 n2, .int .u64 (b2 : Int), .string t2, .int .i64 d2] 72)).heap[w.heap.size + 1]? = some (.cells #[.int .i64 k2, .int .i64 n2, .int .u64 (b2 : Int), .string t2, .int .i64 d2] 72 (0, 0)) := by
    have := heap_alloc_new (w.alloc (.cells #[.int .i64 k1, .int .i64 n1, .int .u64 (b1 : Int), .string t1, .int .i64 d1] 72)) (.cells #[.int .i64 k2, .int .i64 n2, .int .u64 (b2 : Int), .string t2, .int .i64 d2] 72)
    simpa using this
  have hb0 : Below w.heap.size w (w.alloc (.cells #[.int .i64 k1, .int .i64 n1, .int .u64 (b1 : Int), .string t1, .int .i64 d1] 72) |>.alloc (.cells #[.int .i64 k2, .int .i64 n2, .int .u64 (b2 : Int), .string t2, .int .i64 d2] 72)) := ((Below.refl _ _).alloc (Nat.le_refl _) _).alloc (by simp) _
  have hz : w.heap.size + 1 < (w.alloc (.cells #[.int .i64 k1, .int .i64 n1, .int .u64 (b1 : Int), .string t1, .int .i64 d1] 72) |>.alloc (.cells #[.int .i64 k2, .int .i64 n2, .int .u64 (b2 : Int), .string t2, .int .i64 d2] 72)).heap.size := by simp
  generalize (w.alloc (.cells #[.int .i64 k1, .int .i64 n1, .int .u64 (b1 : Int), .string t1, .int .i64 d1] 72) |>.alloc (.cells #[.int .i64 k2, .int .i64 n2, .int .u64 (b2 : Int), .string t2, .int .i64 d2] 72)) = W0 at hA hB hb0 hz ⊢
  have hS : ∀ V, Below W0.heap.size W0 V → V.cell? ⟨w.heap.size, 0, none⟩ = some (.int .i64 k1) ∧ V.cell? ⟨w.heap.size, 1, none⟩ = some (.int .i64 n1) ∧ V.cell? ⟨w.heap.size, 2, none⟩ = some (.int .u64 (b1 : Int)) ∧ V.cell? ⟨w.heap.size, 3, none⟩ = some (.string t1) ∧ V.cell? ⟨w.heap.size + 1, 0, none⟩ = some (.int .i64 k2) ∧ V.cell? ⟨w.heap.size + 1, 1, none⟩ = some (.int .i64 n2) ∧ V.cell? ⟨w.heap.size + 1, 2, none⟩ = some (.int .u64 (b2 : Int)) ∧ V.cell? ⟨w.heap.size + 1, 3, none⟩ = some (.string t2) := fun V hV => by
    have h1 := (hV.block w.heap.size (by omega)).trans hA
    have h2 := (hV.block (w.heap.size + 1) hz).trans hB
    exact ⟨cell_of_row V _ 0 _ _ _ h1, cell_of_row V _ 1 _ _ _ h1, cell_of_row V _ 2 _ _ _ h1, cell_of_row V _ 3 _ _ _ h1, cell_of_row V _ 0 _ _ _ h2, cell_of_row V _ 1 _ _ _ h2, cell_of_row V _ 2 _ _ _ h2, cell_of_row V _ 3 _ _ _ h2⟩
  have d0 : Below W0.heap.size W0 W0.drew := (Below.refl _ _).drew
  have s0 := hS _ d0
  have HS := Lib.hid hS
  have HB0 := Lib.hid hb0
  have HGA := Lib.hid (show ∀ (V : World) (o : Obj), Below W0.heap.size W0 V → Below W0.heap.size W0 (V.alloc o) from fun V o h => h.alloc h.size o)
  clear hA hB hb0 hz hS
  go_region_held3 (fun V => V.cell? ⟨w.heap.size, 0, none⟩ = some (.int .i64 k1) ∧ V.cell? ⟨w.heap.size, 1, none⟩ = some (.int .i64 n1) ∧ V.cell? ⟨w.heap.size, 2, none⟩ = some (.int .u64 (b1 : Int)) ∧ V.cell? ⟨w.heap.size, 3, none⟩ = some (.string t1) ∧ V.cell? ⟨w.heap.size + 1, 0, none⟩ = some (.int .i64 k2) ∧ V.cell? ⟨w.heap.size + 1, 1, none⟩ = some (.int .i64 n2) ∧ V.cell? ⟨w.heap.size + 1, 2, none⟩ = some (.int .u64 (b2 : Int)) ∧ V.cell? ⟨w.heap.size + 1, 3, none⟩ = some (.string t2))
    (first | exact s0 | exact HS.out _ (by assumption) | exact HS.out _ (HGA.out _ _ (by assumption)))
    (first
      | (with_reducible refine (Q.out.1 _).mono ?_; rintro e w1 ⟨rfl, rfl⟩)
      | (with_reducible refine (Q.out.2.1 _).mono ?_; rintro e w1 ⟨rfl, rfl⟩)
      | (with_reducible refine (Q.out.2.2.1 _).mono ?_; rintro e w3 ⟨rfl, hb3'⟩; have hb3 : Below W0.heap.size W0 w3 := d0.trans (hb3'.mono d0.size))
      | (with_reducible refine (Q.out.2.2.2.1 _).mono ?_; rintro e w1 ⟨rfl, rfl⟩)
      | (with_reducible refine (Q.out.2.2.2.2 _).mono ?_; rintro e w1 ⟨rfl, rfl⟩; have hb5 : Below W0.heap.size W0 (w3.alloc (.cells #[.int .i64 o1, .int .i64 o2, .int .i64 o3, .int .i64 o4] 3)) := hb3.alloc hb3.size _))
  go_wp2_with fail
  go_ret
  exact ⟨rfl, HB0.out.trans (hb5.mono HB0.out.size)⟩
end Go.Proofs.YtilbbemdinpjcaaGreat.T
