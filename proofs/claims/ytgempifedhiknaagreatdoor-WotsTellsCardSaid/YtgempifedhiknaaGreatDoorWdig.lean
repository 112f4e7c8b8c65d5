/-
  The digits of a message (25).
-/
import Derived.Test.YtgempifedhiknaaGreatDoorWm
import Derived.Deep.CutRange
namespace Go.Proofs.YtgempifedhiknaaGreatDoor
set_option maxRecDepth 100000
open Go.RowKit Sha

/-- The message's own digits. -/
def wdig (m : List UInt8) (i : Nat) : Nat := if i % 2 = 0 then (m.getD (i / 2) 0).toNat / 16 else (m.getD (i / 2) 0).toNat % 16
theorem wdig_lt (m : List UInt8) (i : Nat) : wdig m i < 16 := by
  unfold wdig
  have := (m.getD (i / 2) 0).toNat_lt
  split <;> omega
/-- What the first n leave. -/
def leftD (m : List UInt8) : Nat → Nat
  | 0 => 0
  | n + 1 => leftD m n + (15 - wdig m n)
theorem leftD_le (m : List UInt8) : ∀ n, leftD m n ≤ 15 * n
  | 0 => by simp [leftD]
  | n + 1 => by have := leftD_le m n; simp [leftD]; omega
/-- All 35. -/
def digit (m : List UInt8) (i : Nat) : Nat := if i < 32 then wdig m i else if i = 32 then leftD m 32 / 256 else if i = 33 then leftD m 32 / 16 % 16 else leftD m 32 % 16
theorem digit_le (m : List UInt8) (i : Nat) : digit m i ≤ 15 := by
  unfold digit
  have h1 := wdig_lt m i
  have h2 := leftD_le m 32
  split
  · omega
  · split
    · omega
    · split <;> omega
/-- The row while it is filled. -/
def digRow (m : List UInt8) (j : Nat) : List UInt8 := (List.range 35).map fun i => if i < j then UInt8.ofNat (digit m i) else 0
theorem digRow_length (m : List UInt8) (j : Nat) : (digRow m j).length = 35 := by simp [digRow]
theorem digRow_zero (m : List UInt8) : B8 (digRow m 0) = #[Value.int .u8 0, .int .u8 0, .int .u8 0, .int .u8 0, .int .u8 0, .int .u8 0, .int .u8 0, .int .u8 0, .int .u8 0, .int .u8 0, .int .u8 0, .int .u8 0, .int .u8 0, .int .u8 0, .int .u8 0, .int .u8 0, .int .u8 0, .int .u8 0, .int .u8 0, .int .u8 0, .int .u8 0, .int .u8 0, .int .u8 0, .int .u8 0, .int .u8 0, .int .u8 0, .int .u8 0, .int .u8 0, .int .u8 0, .int .u8 0, .int .u8 0, .int .u8 0, .int .u8 0, .int .u8 0, .int .u8 0] := by kernel_rfl
theorem digRow_set (m : List UInt8) (j : Nat) (v : Nat) (hv : v = digit m j) : (digRow m j).set j (UInt8.ofNat v) = digRow m (j + 1) := by
  subst hv
  unfold digRow
  apply List.ext_getElem?
  intro i
  by_cases hi : i < 35
  · rw [List.getElem?_set]
    by_cases e : j = i
    · subst e
      simp [hi]
    · have h2 : (i < j + 1) ↔ (i < j) := by omega
      simp [e, h2, List.getElem?_map, List.getElem?_range hi]
  · rw [List.getElem?_eq_none (by simp; omega), List.getElem?_eq_none (by simp; omega)]
theorem digRow_get (m : List UInt8) (j i : Nat) (hi : i < 35) (hj : i < j) : (B8 (digRow m j))[i]? = some (.int .u8 (digit m i)) := by
  have h := B8_get (digRow m j) i (by rw [digRow_length]; exact hi)
  rw [h]
  have := digit_le m i
  simp [digRow, List.getElem?_range hi, hj, Nat.mod_eq_of_lt (show digit m i < 256 by omega)]
theorem left_wrap (l d e l2 : Nat) (h1 : d < 16) (h2 : e = 15 - d) (h3 : l2 = l + e) (h4 : l ≤ 480) : wrap64 ((l : Int) + wrap64 (15 - wrap64 (d : Int))) = (l2 : Int) := by
  have e1 : wrap64 (d : Int) = (d : Int) := by unfold wrap64; omega
  have e2 : wrap64 (15 - (d : Int)) = 15 - (d : Int) := by unfold wrap64; omega
  rw [e1, e2]
  unfold wrap64; omega
theorem digit_32 (m : List UInt8) : ((leftD m 32 : Nat) : Int) / 256 = (digit m 32 : Int) := by
  unfold digit
  rw [if_neg (by omega), if_pos rfl]; omega
theorem lies_digit {w : World} {g : Nat} {m : List UInt8} {j : Nat} (h : Lies w g (B8 (digRow m j)) 40) : Lies (w.setCell ⟨g, j, none⟩ (.int .u8 (digit m j))) g (B8 (digRow m (j + 1))) 40 := by
  have hd := digit_le m j
  have := h.set j (.int .u8 (digit m j))
  rw [show (Value.int .u8 (digit m j : Int)) = .int .u8 ((UInt8.ofNat (digit m j)).toNat : Int) by simp [Nat.mod_eq_of_lt (show digit m j < 256 by omega)], B8_set, digRow_set m j _ rfl] at this
  rw [show (Value.int .u8 (digit m j : Int)) = .int .u8 ((UInt8.ofNat (digit m j)).toNat : Int) by simp [Nat.mod_eq_of_lt (show digit m j < 256 by omega)]]
  exact this
theorem and15_fin : ∀ a : Fin 256, bits .and .u8 ((a.val : Nat) : Int) 15 = ((a.val % 16 : Nat) : Int) := by decide +kernel
theorem and15_u8 (a : Nat) (h : a < 256) : bits .and .u8 (a : Int) 15 = ((a % 16 : Nat) : Int) := and15_fin ⟨a, h⟩
theorem and15_fin64 : ∀ a : Fin 481, bits .and .i64 ((a.val : Nat) : Int) 15 = ((a.val % 16 : Nat) : Int) := by decide +kernel
theorem and15_i64 (a : Nat) (h : a ≤ 480) : bits .and .i64 (a : Int) 15 = ((a % 16 : Nat) : Int) := and15_fin64 ⟨a, by omega⟩
theorem wdig_even (m : List UInt8) (j : Nat) (h : j % 2 = 0) : bits .and .u8 (((m.getD (j / 2) 0).toNat : Int) / 16) 15 = (wdig m j : Int) := by
  have hx := (m.getD (j / 2) 0).toNat_lt
  unfold wdig
  rw [if_pos h]
  generalize (m.getD (j / 2) 0).toNat = x at hx ⊢
  rw [show (x : Int) / 16 = ((x / 16 : Nat) : Int) by omega, and15_u8 _ (by omega), Nat.mod_eq_of_lt (by omega)]
theorem wdig_odd (m : List UInt8) (j : Nat) (h : j % 2 = 1) : bits .and .u8 ((m.getD (j / 2) 0).toNat : Int) 15 = (wdig m j : Int) := by
  have hx := (m.getD (j / 2) 0).toNat_lt
  unfold wdig
  rw [if_neg (by omega)]
  exact and15_u8 _ hx
theorem digit_33 (m : List UInt8) : bits .and .i64 (((leftD m 32 : Nat) : Int) / 16) 15 % 256 = (digit m 33 : Int) := by
  have h := leftD_le m 32
  rw [show ((leftD m 32 : Nat) : Int) / 16 = ((leftD m 32 / 16 : Nat) : Int) by omega, and15_i64 _ (by omega)]
  unfold digit
  rw [if_neg (by omega), if_neg (by omega), if_pos rfl]; omega
theorem digit_34 (m : List UInt8) : bits .and .i64 ((leftD m 32 : Nat) : Int) 15 % 256 = (digit m 34 : Int) := by
  have h := leftD_le m 32
  rw [and15_i64 _ (by omega)]
  unfold digit
  rw [if_neg (by omega), if_neg (by omega), if_neg (by omega)]; omega
set_option maxRecDepth 100000 in
set_option maxHeartbeats 1000000 in
theorem digits_any (m : List UInt8) (hm : m.length = 32) (w : World) : Calls Tryz.prog 15 #[.agg (B8 m)] w fun e w' => e = .returned (.agg (B8 (digRow m 35))) ∧ Below w.heap.size w w' := by
  have HM := Lib.hid hm
  obtain ⟨z, hz⟩ : ∃ z : Array Value, z = B8 (digRow m 0) := ⟨_, rfl⟩
  go_enter Tryz.func15, Tryz.ntmps15
  go_wp2_with fail
  rw [show (#[Value.int .u8 0, .int .u8 0, .int .u8 0, .int .u8 0, .int .u8 0, .int .u8 0, .int .u8 0, .int .u8 0, .int .u8 0, .int .u8 0, .int .u8 0, .int .u8 0, .int .u8 0, .int .u8 0, .int .u8 0, .int .u8 0, .int .u8 0, .int .u8 0, .int .u8 0, .int .u8 0, .int .u8 0, .int .u8 0, .int .u8 0, .int .u8 0, .int .u8 0, .int .u8 0, .int .u8 0, .int .u8 0, .int .u8 0, .int .u8 0, .int .u8 0, .int .u8 0, .int .u8 0, .int .u8 0, .int .u8 0] : Array Value) = z from by rw [hz]; exact (digRow_zero m).symm]
  have hst : Lies (((w.alloc (.cells (B8 m) 24)).alloc (.cells z 40)).alloc (.cells z 40)) w.heap.size (B8 m) 24 ∧ Lies (((w.alloc (.cells (B8 m) 24)).alloc (.cells z 40)).alloc (.cells z 40)) (w.heap.size + 1) z 40 ∧
      Lies (((w.alloc (.cells (B8 m) 24)).alloc (.cells z 40)).alloc (.cells z 40)) (w.heap.size + 1 + 1) (B8 (digRow m 0)) 40 ∧ Below w.heap.size w (((w.alloc (.cells (B8 m) 24)).alloc (.cells z 40)).alloc (.cells z 40)) := by
    rw [← hz]
    refine ⟨((Lies.new w (B8 m) 24).alloc _).alloc _, ?_, ?_, (((Below.refl _ _).alloc (Nat.le_refl _) _).alloc (by simp) _).alloc (by simp; omega) _⟩
    · have := (Lies.new (w.alloc (.cells (B8 m) 24)) z 40).alloc (.cells z 40)
      simpa using this
    · have := Lies.new ((w.alloc (.cells (B8 m) 24)).alloc (.cells z 40)) z 40
      simpa using this
  have HST := Lib.hid hst
  clear hst
  generalize ((w.alloc (.cells (B8 m) 24)).alloc (.cells z 40)).alloc (.cells z 40) = W0 at HST ⊢
  go_loopw [4, 7] (fun l i W => ∃ j : Nat, j ≤ 32 ∧ l = .int .i64 (leftD m j) ∧ i = .int .i64 j ∧ Lies W w.heap.size (B8 m) 24 ∧ Lies W (w.heap.size + 1) z 40 ∧ Lies W (w.heap.size + 1 + 1) (B8 (digRow m j)) 40 ∧ Below w.heap.size w W) (fun _ i _ => 32 - (intOf i).toNat)
  case atStart => exact ⟨0, by omega, rfl, rfl, HST.out⟩
  case round =>
    obtain ⟨j, hj, rfl, rfl, h1, h2, h3, hb⟩ := hrel
    by_cases hlt : j < 32
    · have m1 : (j : Int) < 32 := by omega
      have m0 : (0 : Int) ≤ (j : Int) := by omega
      have m2 : (j : Int) < 35 := by omega
      obtain ⟨q, hq⟩ : ∃ q, q = j / 2 := ⟨_, rfl⟩
      have e0 : (j : Int) / 2 = (q : Int) := by omega
      have e1 : IntKind.i64.wrap ((j : Int) / 2) = (q : Int) := by rw [e0, IntKind.wrap_i64]; omega
      clear e0
      have m3 : (0 : Int) ≤ (q : Int) := by omega
      have m4 : (q : Int) < 32 := by omega
      obtain ⟨x, hx⟩ : ∃ x, x = m.getD q 0 := ⟨_, rfl⟩
      have c1 : wr.cell? ⟨w.heap.size, q, none⟩ = some (.int .u8 x.toNat) := by
        rw [hx]
        exact h1.cell q (B8_get m q (by have := HM.out; omega))
      obtain ⟨l, hl⟩ : ∃ l, l = leftD m j := ⟨_, rfl⟩
      rw [← hl]
      have HR := Lib.hid (And.intro hlt (And.intro hq (And.intro hx (And.intro hl (And.intro h1 (And.intro h2 (And.intro h3 hb)))))))
      have c2 : wr.cell? ⟨w.heap.size + 1 + 1, j, none⟩ = some (.int .u8 ((digRow m j).getD j 0).toNat) := h3.cell j (B8_get _ j (by rw [digRow_length]; omega))
      have f2 := h3.free j
      obtain ⟨d, hd⟩ : ∃ d, d = wdig m j := ⟨_, rfl⟩
      obtain ⟨e, he⟩ : ∃ e, e = 15 - d := ⟨_, rfl⟩
      obtain ⟨l2, hl2⟩ : ∃ l2, l2 = leftD m (j + 1) := ⟨_, rfl⟩
      have hd16 : d < 16 := by rw [hd]; exact wdig_lt m j
      have hl480 : l ≤ 480 := by have := leftD_le m j; omega
      have hl2e : l2 = l + e := by rw [hl2, hl, he, hd]; rfl
      have HD := Lib.hid (And.intro hd (And.intro hd16 (And.intro he (And.intro hl2e (And.intro hl480 hl2)))))
      have hdv : (Value.int .u8 (d : Int)) = .int .u8 ((UInt8.ofNat d).toNat : Int) := by simp [Nat.mod_eq_of_lt (show d < 256 by omega)]
      have hL2 : Lies (wr.setCell ⟨w.heap.size + 1 + 1, j, none⟩ (.int .u8 d)) (w.heap.size + 1 + 1) (B8 (digRow m (j + 1))) 40 := by
        have := h3.set j (.int .u8 d)
        rw [hdv, B8_set, digRow_set m j d (by rw [hd]; unfold digit; rw [if_pos hlt])] at this
        rw [hdv]; exact this
      have hZ2 : Lies (wr.setCell ⟨w.heap.size + 1 + 1, j, none⟩ (.int .u8 d)) (w.heap.size + 1) z 40 := h2.other _ _ (by show w.heap.size + 1 ≠ w.heap.size + 1 + 1; omega)
      have hM2 : Lies (wr.setCell ⟨w.heap.size + 1 + 1, j, none⟩ (.int .u8 d)) w.heap.size (B8 m) 24 := h1.other _ _ (by show w.heap.size ≠ w.heap.size + 1 + 1; omega)
      have hB2 : Below w.heap.size w (wr.setCell ⟨w.heap.size + 1 + 1, j, none⟩ (.int .u8 d)) := hb.setCell (p := ⟨w.heap.size + 1 + 1, j, none⟩) (by show w.heap.size ≤ w.heap.size + 1 + 1; omega) _
      have hC2 : (wr.setCell ⟨w.heap.size + 1 + 1, j, none⟩ (.int .u8 d)).cell? ⟨w.heap.size + 1 + 1, j, none⟩ = some (.int .u8 d) := by
        have hi : j + 1 ≤ 35 := by omega
        have := hL2.cell j (digRow_get m (j + 1) j (by omega) (by omega))
        rw [show digit m j = d by rw [hd]; unfold digit; rw [if_pos hlt]] at this
        exact this
      clear hl2e hl480 hd16 hl2 he hdv
      clear h1 h2 h3 hb hlt hq hx hl hj
      rcases Nat.mod_two_eq_zero_or_one j with hp | hp
      · have hp2 : ((j : Int) % 2 == 0) = true := by rw [beq_iff_eq]; omega
        have ed : bits .and .u8 ((x.toNat : Int) / 16) 15 = (d : Int) := by rw [HR.out.2.2.1, HR.out.2.1, hd]; exact wdig_even m j hp
        clear hp hd
        go_upto_region 9 with fail
        clear c1 hp2 e1 m3 m4
        go_upto_region 10 with fail
        have HW := Lib.hid (And.intro hL2 (And.intro hZ2 (And.intro hM2 hB2)))
        clear c2 f2 hL2 hZ2 hM2 hB2 ed
        have c5 := hC2
        generalize wr.setCell ⟨w.heap.size + 1 + 1, j, none⟩ (.int .u8 d) = W5 at c5 HW ⊢
        clear hC2
        go_wp2_with fail
        refine ⟨⟨j + 1, by have := HR.out.1; omega, by rw [← HD.out.2.2.2.2.2]; exact congrArg (Value.int .i64) (left_wrap l d e l2 HD.out.2.1 HD.out.2.2.1 HD.out.2.2.2.1 HD.out.2.2.2.2.1), rfl, HW.out.2.2.1, HW.out.2.1, HW.out.1, HW.out.2.2.2⟩, ?_⟩
        have := HR.out.1
        simp [intOf]; omega
      · have hp2 : ((j : Int) % 2 == 0) = false := by rw [beq_eq_false_iff_ne]; omega
        have ed : bits .and .u8 (x.toNat : Int) 15 = (d : Int) := by rw [HR.out.2.2.1, HR.out.2.1, hd]; exact wdig_odd m j hp
        clear hp hd
        go_upto_region 9 with fail
        clear c1 hp2 e1 m3 m4
        go_upto_region 10 with fail
        have HW := Lib.hid (And.intro hL2 (And.intro hZ2 (And.intro hM2 hB2)))
        clear c2 f2 hL2 hZ2 hM2 hB2 ed
        have c5 := hC2
        generalize wr.setCell ⟨w.heap.size + 1 + 1, j, none⟩ (.int .u8 d) = W5 at c5 HW ⊢
        clear hC2
        go_wp2_with fail
        refine ⟨⟨j + 1, by have := HR.out.1; omega, by rw [← HD.out.2.2.2.2.2]; exact congrArg (Value.int .i64) (left_wrap l d e l2 HD.out.2.1 HD.out.2.2.1 HD.out.2.2.2.1 HD.out.2.2.2.2.1), rfl, HW.out.2.2.1, HW.out.2.1, HW.out.1, HW.out.2.2.2⟩, ?_⟩
        have := HR.out.1
        simp [intOf]; omega
    · have hj2 : j = 32 := by omega
      obtain ⟨L, hL⟩ : ∃ L, L = leftD m j := ⟨_, rfl⟩
      rw [← hL]
      have hL2 : L ≤ 480 := by rw [hL, hj2]; exact leftD_le m 32
      have HL := Lib.hid (And.intro hL (And.intro hj2 (And.intro h1 (And.intro h2 (And.intro h3 hb)))))
      have m1 : decide ((j : Int) < 32) = false := by simp; omega
      clear h1 h2 h3 hb hj2 hj hlt
      clear hL
      have cA := HL.out.2.2.2.2.1.cell 32 (B8_get _ 32 (by rw [digRow_length]; omega))
      have fA := HL.out.2.2.2.2.1.free 32
      have cB := HL.out.2.2.2.2.1.cell 33 (B8_get _ 33 (by rw [digRow_length]; omega))
      have fB := HL.out.2.2.2.2.1.free 33
      have cC := HL.out.2.2.2.2.1.cell 34 (B8_get _ 34 (by rw [digRow_length]; omega))
      have fC := HL.out.2.2.2.2.1.free 34
      generalize ((digRow m j).getD 32 0) = y32 at cA
      generalize ((digRow m j).getD 33 0) = y33 at cB
      generalize ((digRow m j).getD 34 0) = y34 at cC
      go_upto_region 13 with fail
      have v32 : (L : Int) / 256 = (digit m 32 : Int) := by rw [HL.out.1, HL.out.2.1]; exact digit_32 m
      have v33 : bits .and .i64 ((L : Int) / 16) 15 % 256 = (digit m 33 : Int) := by rw [HL.out.1, HL.out.2.1]; exact digit_33 m
      have v34 : bits .and .i64 (L : Int) 15 % 256 = (digit m 34 : Int) := by rw [HL.out.1, HL.out.2.1]; exact digit_34 m
      rw [v32, v33, v34]
      have hx1 := HL.out.2.2.2.2.1
      rw [HL.out.2.1] at hx1
      have hx4 := lies_digit (lies_digit (lies_digit hx1))
      have hy4 : Lies (((wr.setCell ⟨w.heap.size + 1 + 1, 32, none⟩ (.int .u8 (digit m 32))).setCell ⟨w.heap.size + 1 + 1, 33, none⟩ (.int .u8 (digit m 33))).setCell ⟨w.heap.size + 1 + 1, 34, none⟩ (.int .u8 (digit m 34))) (w.heap.size + 1) z 40 :=
        ((HL.out.2.2.2.1.other _ _ (by show w.heap.size + 1 ≠ w.heap.size + 1 + 1; omega)).other _ _ (by show w.heap.size + 1 ≠ w.heap.size + 1 + 1; omega)).other _ _ (by show w.heap.size + 1 ≠ w.heap.size + 1 + 1; omega)
      have hb4 : Below w.heap.size w (((wr.setCell ⟨w.heap.size + 1 + 1, 32, none⟩ (.int .u8 (digit m 32))).setCell ⟨w.heap.size + 1 + 1, 33, none⟩ (.int .u8 (digit m 33))).setCell ⟨w.heap.size + 1 + 1, 34, none⟩ (.int .u8 (digit m 34))) :=
        ((HL.out.2.2.2.2.2.setCell (p := ⟨w.heap.size + 1 + 1, 32, none⟩) (by show w.heap.size ≤ w.heap.size + 1 + 1; omega) _).setCell (p := ⟨w.heap.size + 1 + 1, 33, none⟩) (by show w.heap.size ≤ w.heap.size + 1 + 1; omega) _).setCell (p := ⟨w.heap.size + 1 + 1, 34, none⟩) (by show w.heap.size ≤ w.heap.size + 1 + 1; omega) _
      have HX := Lib.hid (And.intro hx4 (And.intro hy4 hb4))
      clear hx1 hx4 hy4 hb4 cA fA cB fB cC fC v32 v33 v34 hL2
      generalize ((wr.setCell ⟨w.heap.size + 1 + 1, 32, none⟩ (.int .u8 (digit m 32))).setCell ⟨w.heap.size + 1 + 1, 33, none⟩ (.int .u8 (digit m 33))).setCell ⟨w.heap.size + 1 + 1, 34, none⟩ (.int .u8 (digit m 34)) = W3 at HX ⊢
      have hsz : (B8 (digRow m 35)).size = 35 := by rw [B8_size]; exact digRow_length m 35
      go_wp2_with (first
        | (refine wpList_load_row rfl 40 _ rfl (w.heap.size + 1 + 1) rfl 40 _ (0, 0) _ HX.out.1 Tryz.underlying40 rfl (by rw [hsz]; kernel_rfl) ?_)
        | (refine wpList_store_row rfl 40 _ _ rfl (w.heap.size + 1) (B8 (digRow m 35)) rfl rfl 40 z HX.out.2.1 (by rw [hsz]; kernel_rfl) (by rw [hsz, hz, B8_size]; exact digRow_length m 0) (B8_one _) ?_))
      refine bodyPost_ret (v := .agg (B8 (digRow m 35))) (results_cell_row (p := 2) (ty := 40) (by kernel_rfl) _ _ (w.heap.size + 1) 40 (B8 (digRow m 35)) (0, 0) _ rfl (HX.out.2.1.setRow _) Tryz.underlying40 rfl (by rw [hsz]; kernel_rfl)) rfl ⟨rfl, ?_⟩
      exact below_setRow HX.out.2.2 _ _ (by omega)
end Go.Proofs.YtgempifedhiknaaGreatDoor
