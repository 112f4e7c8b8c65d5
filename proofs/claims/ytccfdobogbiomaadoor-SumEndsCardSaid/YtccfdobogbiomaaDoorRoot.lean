/-
  Root, of at most 40 hashes.
-/
import Derived.Test.YtccfdobogbiomaaDoorAwake
import Derived.Test.YtccfdobogbiomaaDoorPow
import Derived.Test.YtccfdobogbiomaaDoorInv
import Derived.Deep.Cut
import Derived.Outline
namespace Go.Proofs.YtccfdobogbiomaaDoor
open Go.RowKit Sha

theorem powB_bounds (n : Nat) (h : 2 ≤ n) : 1 ≤ powB n ∧ powB n < n := by
  unfold powB blen
  (repeat' split) <;> (first | omega | (simp; omega))
/-- The root of m hashes, of 32 bytes each, that stand one behind the other. -/
def root (m : Nat) (F : List UInt8) : List UInt8 :=
  if _h0 : m = 0 then sha [0] else if _h1 : m = 1 then sha (1 :: F)
  else sha (2 :: (root (powB m) (F.take (32 * powB m)) ++ root (m - powB m) (F.drop (32 * powB m))))
termination_by m
decreasing_by
  · have := powB_bounds m (by omega); omega
  · have := powB_bounds m (by omega); omega
theorem root_zero (F : List UInt8) : root 0 F = sha [0] := by rw [root]; rfl
theorem root_one (F : List UInt8) : root 1 F = sha (1 :: F) := by rw [root]; rfl
theorem root_more (m : Nat) (F : List UInt8) (h : 2 ≤ m) : root m F = sha (2 :: (root (powB m) (F.take (32 * powB m)) ++ root (m - powB m) (F.drop (32 * powB m)))) := by
  rw [root, dif_neg (by omega), dif_neg (by omega)]
theorem root_length (m : Nat) (F : List UInt8) : (root m F).length = 32 := by
  rw [root]; split
  · rfl
  · split <;> rfl

/-- A new byte's slice. -/
theorem good_new {W : World} {g : Nat} {x : UInt8} {fr : Nat × Nat} (h : W.heap[g]? = some (.cells #[.int .u8 x.toNat] 5 fr)) : Good W ⟨some ⟨g, 0, none⟩, [x], 1⟩ := by
  refine ⟨Nat.le_refl _, (by unfold maxLen; omega : (1 : Nat) ≤ maxLen), fun _ => ⟨g, 0, rfl, (Array.getElem?_eq_some_iff.1 h).1, fun j hj => ?_⟩⟩
  obtain rfl : j = 0 := by simp at hj; omega
  exact cell_of_row W _ _ _ _ _ h
/-- A whole hash as a slice. -/
theorem good_hash {W : World} {g off : Nat} {xs : List UInt8} {c : Nat} (hx : xs.length ≤ c) (hc : c ≤ maxLen) (hg : g < W.heap.size) (h : Src W g off xs) : Good W ⟨some ⟨g, off, none⟩, xs, c⟩ :=
  ⟨hx, hc, fun _ => ⟨g, off, rfl, hg, h⟩⟩

/-- What stays of a row of hashes while a call makes memory. -/
def RootOf (k : Nat) : Prop := ∀ (m : Nat) (F : List UInt8) (w : World) (v : Option Addr) (cap : Nat), m ≤ k → m ≤ 40 → F.length = 32 * m → m ≤ cap → cap ≤ maxLen →
  (0 < m → ∃ g off, v = some ⟨g, off, none⟩ ∧ g < w.heap.size ∧ Src w g off F) → Starts w → Cubes w →
  Calls Tryd.prog 14 #[.slice v m cap] w fun e w' => e = .returned (.agg (B8 (root m F))) ∧ Below w.heap.size w w'

theorem Src.take {w : World} {g off : Nat} {F : List UInt8} (h : Src w g off F) (n : Nat) : Src w g off (F.take n) := fun j hj => by
  rw [List.length_take] at hj
  rw [h j (by omega)]
  simp only [List.getD_eq_getElem?_getD]
  rw [List.getElem?_take_of_lt (by omega)]
theorem Src.drop {w : World} {g off : Nat} {F : List UInt8} (h : Src w g off F) (n : Nat) : Src w g (off + n) (F.drop n) := fun j hj => by
  rw [List.length_drop] at hj
  rw [Nat.add_assoc, h (n + j) (by omega)]
  simp only [List.getD_eq_getElem?_getD]
  rw [List.getElem?_drop]

/-- Of, of one byte and two hashes. -/
theorem of_pair (w : World) (g1 g2 : Nat) (R1 R2 : List UInt8) (h1 : R1.length = 32) (h2 : R2.length = 32) (y1 : Lies w g1 (B8 R1) 27) (y2 : Lies w g2 (B8 R2) 27) (hs : Starts w) (hc : Cubes w) :
    Calls Tryd.prog 10 #[.slice (some ⟨w.heap.size + 1, 0, none⟩) 3 3]
      ((w.alloc (.cells #[.int .u8 2] 5)).alloc (.cells #[.slice (some ⟨w.heap.size, 0, none⟩) 1 1, .slice (some ⟨g1, 0, none⟩) 32 32, .slice (some ⟨g2, 0, none⟩) 32 32] 38)).drew
      fun e w2 => e = .returned (.agg (B8 (sha (2 :: (R1 ++ R2))))) ∧ Below w.heap.size w w2 := by
  have e1 : (w.alloc (.cells #[.int .u8 2] 5)).heap.size = w.heap.size + 1 := by simp
  have t1 : ((w.alloc (.cells #[.int .u8 2] 5)).alloc (.cells #[.slice (some ⟨w.heap.size, 0, none⟩) 1 1, .slice (some ⟨g1, 0, none⟩) 32 32, .slice (some ⟨g2, 0, none⟩) 32 32] 38)).drew.heap[w.heap.size]? = some (.cells #[.int .u8 2] 5 (0, 0)) :=
    (Below.heap_alloc _ _ _ (by omega)).trans (Go.heap_alloc_new w (.cells #[.int .u8 2] 5))
  have t2 : ((w.alloc (.cells #[.int .u8 2] 5)).alloc (.cells #[.slice (some ⟨w.heap.size, 0, none⟩) 1 1, .slice (some ⟨g1, 0, none⟩) 32 32, .slice (some ⟨g2, 0, none⟩) 32 32] 38)).drew.heap[w.heap.size + 1]? = some (.cells #[.slice (some ⟨w.heap.size, 0, none⟩) 1 1, .slice (some ⟨g1, 0, none⟩) 32 32, .slice (some ⟨g2, 0, none⟩) 32 32] 38 (0, 0)) := by
    rw [← e1]; exact Go.heap_alloc_new (w.alloc (.cells #[.int .u8 2] 5)) _
  have hb : Below w.heap.size w ((w.alloc (.cells #[.int .u8 2] 5)).alloc (.cells #[.slice (some ⟨w.heap.size, 0, none⟩) 1 1, .slice (some ⟨g1, 0, none⟩) 32 32, .slice (some ⟨g2, 0, none⟩) 32 32] 38)).drew :=
    (((Below.refl _ _).alloc (Nat.le_refl _) _).alloc (by omega) _).drew
  have hsz : ((w.alloc (.cells #[.int .u8 2] 5)).alloc (.cells #[.slice (some ⟨w.heap.size, 0, none⟩) 1 1, .slice (some ⟨g1, 0, none⟩) 32 32, .slice (some ⟨g2, 0, none⟩) 32 32] 38)).drew.heap.size = w.heap.size + 1 + 1 := by
    show ((w.alloc (.cells #[.int .u8 2] 5)).alloc _).heap.size = _
    simp
  generalize ((w.alloc (.cells #[.int .u8 2] 5)).alloc (.cells #[.slice (some ⟨w.heap.size, 0, none⟩) 1 1, .slice (some ⟨g1, 0, none⟩) 32 32, .slice (some ⟨g2, 0, none⟩) 32 32] 38)).drew = W at t1 t2 hb hsz ⊢
  have l1 := y1.lt
  have l2 := y2.lt
  have z1 := y1.below hb l1
  have z2 := y2.below hb l2
  have hm : (3 : Nat) ≤ maxLen := by unfold maxLen; omega
  have hm2 : (32 : Nat) ≤ maxLen := by unfold maxLen; omega
  have src : ∀ (g : Nat) (R : List UInt8), Lies W g (B8 R) 27 → Src W g 0 R := fun g R hl j hj => by
    rw [Nat.zero_add]; exact hl.cell j (B8_get R j hj)
  have hj : joined [⟨some ⟨w.heap.size, 0, none⟩, [2], 1⟩, ⟨some ⟨g1, 0, none⟩, R1, 32⟩, ⟨some ⟨g2, 0, none⟩, R2, 32⟩] = 2 :: (R1 ++ R2) := by simp [joined]
  have main := of_any [⟨some ⟨w.heap.size, 0, none⟩, [2], 1⟩, ⟨some ⟨g1, 0, none⟩, R1, 32⟩, ⟨some ⟨g2, 0, none⟩, R2, 32⟩] W (some ⟨w.heap.size + 1, 0, none⟩) 3 hm ?_ ?_ ?_ (hs.below hb (by have := Lies.lt hc; omega)) (hc.below hb (Lies.lt hc))
  · rw [hj] at main
    refine main.mono ?_
    rintro e w3 ⟨rfl, hb3⟩
    exact ⟨rfl, hb.trans (hb3.mono hb.size)⟩
  · intro p hp
    simp only [List.mem_cons, List.not_mem_nil, or_false] at hp
    rcases hp with rfl | rfl | rfl
    · exact good_new t1
    · exact good_hash (by rw [h1]; exact Nat.le_refl _) hm2 (by omega) (src _ _ z1)
    · exact good_hash (by rw [h2]; exact Nat.le_refl _) hm2 (by omega) (src _ _ z2)
  · intro _
    refine ⟨_, _, rfl, by omega, fun j hj => ?_⟩
    have hj2 : j = 0 ∨ j = 1 ∨ j = 2 := by simp at hj; omega
    rcases hj2 with rfl | rfl | rfl
    · exact cell_of_row W _ _ _ _ _ t2
    · have := cell_of_row W _ 1 _ _ _ t2
      simpa [Part.val, h1] using this
    · have := cell_of_row W _ 2 _ _ _ t2
      simpa [Part.val, h2] using this
  · rw [hj]; simp [h1, h2]

set_option maxRecDepth 100000 in
set_option maxHeartbeats 4000000 in
theorem root_many (k : Nat) (ih : RootOf k) (m : Nat) (F : List UInt8) (w : World) (cap g off : Nat) (hk : m ≤ k + 1) (h2 : 2 ≤ m) (h40 : m ≤ 40) (hF : F.length = 32 * m) (hc1 : m ≤ cap) (hc2 : cap ≤ maxLen)
    (hgw : g < w.heap.size) (hsrc : Src w g off F) (hs : Starts w) (hc : Cubes w) :
    Calls Tryd.prog 14 #[.slice (some ⟨g, off, none⟩) m cap] w fun e w' => e = .returned (.agg (B8 (root m F))) ∧ Below w.heap.size w w' := by
  have hpw := fun w => pow_any m h2 h40 w
  obtain ⟨p1, p2⟩ := powB_bounds m h2
  have hroot := root_more m F h2
  generalize powB m = n at hpw p1 p2 hroot
  have HPW := Lib.hid hpw
  have HROOT := Lib.hid hroot
  have HF := Lib.hid hF
  have HSRC := Lib.hid hsrc
  have HS := Lib.hid hs
  have HC := Lib.hid hc
  have HIH := Lib.hid ih
  clear hpw hroot hF hsrc hs hc ih
  have e0 : ((m : Int) == 0) = false := by rw [beq_eq_false_iff_ne]; omega
  have e1 : ((m : Int) == 1) = false := by rw [beq_eq_false_iff_ne]; omega
  have n1 : (n : Int) ≤ (m : Int) := by omega
  have n2 : (0 : Int) ≤ (n : Int) := by omega
  have n3 : n ≤ m := by omega
  have n4 : n ≤ cap := by omega
  have n5 : ¬ cap = n := by omega
  have n6 : (n : Int) ≤ (cap : Int) := by omega
  go_enter Tryd.func14, Tryd.ntmps14
  go_wp2_with fail
  refine (HPW.out _).mono ?_
  rintro e w1 ⟨rfl, rfl⟩
  go_wp2_with fail
  change Code.wp _ _ _ _ (w.alloc (.cells z32 27))
  have hb0 : Below w.heap.size w (w.alloc (.cells z32 27)) := (Below.refl _ _).alloc (Nat.le_refl _) _
  have hz0 : Lies (w.alloc (.cells z32 27)) w.heap.size z32 27 := Lies.new w _ _
  have h1n : 1 < w.heap.size := Lies.lt HC.out
  have c1 : ∀ W, Below w.heap.size w W → Calls Tryd.prog 14 #[.slice (some ⟨g, off, none⟩) n cap] W fun e w' => e = .returned (.agg (B8 (root n (F.take (32 * n))))) ∧ Below W.heap.size W w' := by
    intro W hB
    exact HIH.out n (F.take (32 * n)) W _ cap (by omega) (by omega) (by rw [List.length_take, HF.out]; omega) n4 hc2 (fun _ => ⟨g, off, rfl, Nat.lt_of_lt_of_le hgw hB.size, (HSRC.out.take _).below hB hgw⟩) (Lies.below HS.out hB (by omega)) (Lies.below HC.out hB h1n)
  have c2 : ∀ W, Below w.heap.size w W → Calls Tryd.prog 14 #[.slice (some ⟨g, off + n * 32, none⟩) (m - n) (cap - n)] W fun e w' => e = .returned (.agg (B8 (root (m - n) (F.drop (32 * n))))) ∧ Below W.heap.size W w' := by
    intro W hB
    exact HIH.out (m - n) (F.drop (32 * n)) W _ (cap - n) (by omega) (by omega) (by rw [List.length_drop, HF.out]; omega) (by omega) (by omega) (fun _ => ⟨g, off + n * 32, rfl, Nat.lt_of_lt_of_le hgw hB.size, (by rw [Nat.mul_comm n 32]; exact (HSRC.out.drop _).below hB hgw)⟩) (Lies.below HS.out hB (by omega)) (Lies.below HC.out hB h1n)
  generalize w.alloc (.cells z32 27) = W0 at hb0 hz0 ⊢
  have C1 := Lib.hid c1
  have C2 := Lib.hid c2
  have HB0 := Lib.hid hb0
  have HZ0 := Lib.hid hz0
  have H1N := Lib.hid h1n
  clear c1 c2 hb0 hz0 h1n
  have l1 := root_length n (F.take (32 * n))
  have l2 := root_length (m - n) (F.drop (32 * n))
  generalize root n (F.take (32 * n)) = R1 at C1 HROOT l1 ⊢
  generalize root (m - n) (F.drop (32 * n)) = R2 at C2 HROOT l2 ⊢
  have L1 := Lib.hid l1
  have L2 := Lib.hid l2
  clear l1 l2
  refine wp_region_any (by kernel_rfl) ?_
  change wpAny _ _ _ _ _ _ _ (World.drew W0)
  refine wpAny_takeTo (i := 0) (v := .slice (some ⟨g, off, none⟩) m cap) rfl 24 rfl (by kernel_rfl) (by kernel_rfl) (by kernel_rfl) (fun _ _ _ h => h) rfl ?_ #[true, false, false, false, false, false, false, false, false, false, false, false] (by kernel_rfl) ?_
  · intro w; go_simp
  simp only [Act.put, List.setIfInBounds_toArray, List.set_cons_zero, List.set_cons_succ]
  refine wpAny_takeTo (i := 1) (v := .int .i64 n) rfl 25 rfl (by kernel_rfl) (by kernel_rfl) (by kernel_rfl) (fun _ _ _ h => h) rfl ?_ #[true, true, false, false, false, false, false, false, false, false, false, false] (by kernel_rfl) ?_
  · intro w; go_simp
  simp only [Act.put, List.setIfInBounds_toArray, List.set_cons_zero, List.set_cons_succ]
  refine wpAny_takeTo (i := 2) (v := .slice (some ⟨g, off, none⟩) n cap) rfl 26 rfl (by kernel_rfl) (by kernel_rfl) (by kernel_rfl) (fun _ _ _ h => h) rfl ?_ #[true, true, true, false, false, false, false, false, false, false, false, false] (by kernel_rfl) ?_
  · intro w; go_simp
  simp only [Act.put, List.setIfInBounds_toArray, List.set_cons_zero, List.set_cons_succ]
  refine wpAny_takeTo (i := 4) (v := .slice (some ⟨g, off, none⟩) m cap) rfl 28 rfl (by kernel_rfl) (by kernel_rfl) (by kernel_rfl) (fun _ _ _ h => h) rfl ?_ #[true, true, true, false, true, false, false, false, false, false, false, false] (by kernel_rfl) ?_
  · intro w; go_simp
  simp only [Act.put, List.setIfInBounds_toArray, List.set_cons_zero, List.set_cons_succ]
  refine wpAny_takeTo (i := 5) (v := .int .i64 n) rfl 29 rfl (by kernel_rfl) (by kernel_rfl) (by kernel_rfl) (fun _ _ _ h => h) rfl ?_ #[true, true, true, false, true, true, false, false, false, false, false, false] (by kernel_rfl) ?_
  · intro w; go_simp
  simp only [Act.put, List.setIfInBounds_toArray, List.set_cons_zero, List.set_cons_succ]
  refine wpAny_takeTo (i := 6) (v := .slice (some ⟨g, off + n * 32, none⟩) (m - n) (cap - n)) rfl 30 rfl (by kernel_rfl) (by kernel_rfl) (by kernel_rfl) (fun _ _ _ h => h) rfl ?_ #[true, true, true, false, true, true, true, false, false, false, false, false] (by kernel_rfl) ?_
  · intro w; go_simp
  simp only [Act.put, List.setIfInBounds_toArray, List.set_cons_zero, List.set_cons_succ]
  refine pair_any W0 R1 R2 L1.out L2.out _ 27 31 4 5 (by decide) (by decide) (by decide) (by decide) (by decide) (by decide) (by show (27 : Nat) < 37; decide) (by show (31 : Nat) < 37; decide) (by show (4 : Nat) < 37; decide) (by show (5 : Nat) < 37; decide)
    14 #[.slice (some ⟨g, off, none⟩) n cap] #[.slice (some ⟨g, off + n * 32, none⟩) (m - n) (cap - n)] _ _ _ _ _ _ rfl rfl rfl (fun _ _ _ _ _ => by kernel_rfl) rfl rfl rfl (fun _ _ _ _ _ => by kernel_rfl) rfl rfl rfl rfl rfl rfl rfl rfl rfl rfl rfl rfl rfl rfl rfl rfl ?hr ?hc1 ?hc2 ?hQ W0.drew (Below.refl _ _).drew
  case hr => exact PairReady.of (by kernel_rfl)
  case hc1 => exact fun W hW => C1.out W (HB0.out.trans (hW.mono HB0.out.size))
  case hc2 => exact fun W hW => C2.out W (HB0.out.trans (hW.mono HB0.out.size))
  intro g1 g2 w' b1 b2 hne y1 y2 hb
  simp only [put4, Act.put, List.setIfInBounds_toArray, List.set_cons_zero, List.set_cons_succ]
  have Y1 := Lib.hid y1
  have Y2 := Lib.hid y2
  have HB := Lib.hid (HB0.out.trans (hb.mono HB0.out.size))
  have HZ := Lib.hid (HZ0.out.below hb HZ0.out.lt)
  have hg1 : w.heap.size ≠ g1 := by have := HZ0.out.lt; omega
  have hg2 : w.heap.size ≠ g2 := by have := HZ0.out.lt; omega
  have HG := Lib.hid (And.intro hg1 hg2)
  clear y1 y2 hb hg1 hg2 b1 b2 hne C1 C2 HIH
  go_wp2_with fail
  refine wp_region_any (by kernel_rfl) ?_
  change wpAny _ _ _ _ _ _ _ (World.drew w')
  refine wpAny_takeTo (i := 1) (v := .slice (some ⟨g1, 0, none⟩) 32 32) rfl 33 rfl (by kernel_rfl) (by kernel_rfl) (by kernel_rfl) (fun _ _ _ h => h) rfl ?_ #[false, true, false, false, false, false] (by kernel_rfl) ?_
  · intro w; go_simp
  simp only [Act.put, List.setIfInBounds_toArray, List.set_cons_zero, List.set_cons_succ]
  refine wpAny_takeTo (i := 2) (v := .slice (some ⟨g2, 0, none⟩) 32 32) rfl 34 rfl (by kernel_rfl) (by kernel_rfl) (by kernel_rfl) (fun _ _ _ h => h) rfl ?_ #[false, true, true, false, false, false] (by kernel_rfl) ?_
  · intro w; go_simp
  simp only [Act.put, List.setIfInBounds_toArray, List.set_cons_zero, List.set_cons_succ]
  refine wpAny_valueTo (i := 0) rfl rfl 32 rfl (by kernel_rfl) #[true, true, true, false, false, false] (by kernel_rfl) (.slice (some ⟨w'.heap.size, 0, none⟩) 1 1) (w'.alloc (.cells #[.int .u8 2] 5)).drew ?_ ?_
  · go_simp
  simp only [Act.put, List.setIfInBounds_toArray, List.set_cons_zero, List.set_cons_succ]
  refine wpAny_valueTo (i := 3) rfl rfl 35 rfl (by kernel_rfl) #[true, true, true, true, false, false] (by kernel_rfl) (.slice (some ⟨w'.heap.size + 1, 0, none⟩) 3 3)
    ((w'.alloc (.cells #[.int .u8 2] 5)).alloc (.cells #[.slice (some ⟨w'.heap.size, 0, none⟩) 1 1, .slice (some ⟨g1, 0, none⟩) 32 32, .slice (some ⟨g2, 0, none⟩) 32 32] 38)).drew ?_ ?_
  · go_simp
  simp only [Act.put, List.setIfInBounds_toArray, List.set_cons_zero, List.set_cons_succ]
  refine wpAny_callTo (i := 4) rfl rfl 36 rfl (by kernel_rfl) #[true, true, true, true, true, false] (by kernel_rfl) 10 #[.slice (some ⟨w'.heap.size + 1, 0, none⟩) 3 3] ?_
    (fun v w2 => v = .agg (B8 (sha (2 :: (R1 ++ R2)))) ∧ Below w'.heap.size w' w2) ?_ ?_
  · go_simp
  · have hb' := HB.out
    have h1n := H1N.out
    refine (of_pair w' g1 g2 R1 R2 L1.out L2.out Y1.out Y2.out (Lies.below HS.out hb' (by omega)) (Lies.below HC.out hb' h1n)).mono ?_
    exact fun e w2 hh => ⟨_, hh.1, rfl, hh.2⟩
  rintro v w2 ⟨rfl, hb2⟩
  simp only [Act.put, List.setIfInBounds_toArray, List.set_cons_zero, List.set_cons_succ]
  have hz : (B8 (sha (2 :: (R1 ++ R2)))).size = 32 := by rw [B8_size]; rfl
  refine wpAny_storeTo (i := 5) rfl rfl rfl (by kernel_rfl) #[true, true, true, true, true, true] (by kernel_rfl) 27 _ _ rfl w.heap.size (B8 (sha (2 :: (R1 ++ R2)))) rfl rfl 27 z32 (HZ.out.below hb2 HZ.out.lt) (by rw [hz]; exact info27) (by rw [hz]; rfl) (B8_one _) ?_
  refine wpAny_done (by kernel_rfl) ?_ _
  have hX : Below w.heap.size w (w2.setRow w.heap.size (B8 (sha (2 :: (R1 ++ R2))))) := below_setRow (HB.out.trans (hb2.mono HB.out.size)) _ _ (Nat.le_refl _)
  have hY : Lies (w2.setRow w.heap.size (B8 (sha (2 :: (R1 ++ R2))))) w.heap.size (B8 (sha (2 :: (R1 ++ R2)))) 27 := (HZ.out.below hb2 HZ.out.lt).setRow _
  have HX := Lib.hid hX
  have HY := Lib.hid hY
  clear hX hY hb2
  go_wp2_with fail
  rw [HROOT.out]
  refine bodyPost_ret (v := .agg (B8 (sha (2 :: (R1 ++ R2))))) (results_cell_row (p := 2) (ty := 27) (by kernel_rfl) _ _ w.heap.size 27 (B8 (sha (2 :: (R1 ++ R2)))) (0, 0) _ rfl HY.out Tryd.underlying27 rfl (by rw [hz]; exact info27)) rfl ⟨rfl, HX.out⟩

theorem of_zero (w : World) (x : UInt8) (hs : Starts w) (hc : Cubes w) :
    Calls Tryd.prog 10 #[.slice (some ⟨w.heap.size + 1, 0, none⟩) 1 1] ((w.alloc (.cells #[.int .u8 x.toNat] 5)).alloc (.cells #[.slice (some ⟨w.heap.size, 0, none⟩) 1 1] 38))
      fun e w2 => e = .returned (.agg (B8 (sha [x]))) ∧ Below w.heap.size w w2 := by
  have e1 : (w.alloc (.cells #[.int .u8 x.toNat] 5)).heap.size = w.heap.size + 1 := by simp
  have t1 : ((w.alloc (.cells #[.int .u8 x.toNat] 5)).alloc (.cells #[.slice (some ⟨w.heap.size, 0, none⟩) 1 1] 38)).heap[w.heap.size]? = some (.cells #[.int .u8 x.toNat] 5 (0, 0)) :=
    (Below.heap_alloc _ _ _ (by omega)).trans (Go.heap_alloc_new w (.cells #[.int .u8 x.toNat] 5))
  have t2 : ((w.alloc (.cells #[.int .u8 x.toNat] 5)).alloc (.cells #[.slice (some ⟨w.heap.size, 0, none⟩) 1 1] 38)).heap[w.heap.size + 1]? = some (.cells #[.slice (some ⟨w.heap.size, 0, none⟩) 1 1] 38 (0, 0)) := by
    rw [← e1]; exact Go.heap_alloc_new (w.alloc (.cells #[.int .u8 x.toNat] 5)) _
  have hb : Below w.heap.size w ((w.alloc (.cells #[.int .u8 x.toNat] 5)).alloc (.cells #[.slice (some ⟨w.heap.size, 0, none⟩) 1 1] 38)) := ((Below.refl _ _).alloc (Nat.le_refl _) _).alloc (by omega) _
  have hsz : ((w.alloc (.cells #[.int .u8 x.toNat] 5)).alloc (.cells #[.slice (some ⟨w.heap.size, 0, none⟩) 1 1] 38)).heap.size = w.heap.size + 1 + 1 := by simp
  generalize (w.alloc (.cells #[.int .u8 x.toNat] 5)).alloc (.cells #[.slice (some ⟨w.heap.size, 0, none⟩) 1 1] 38) = W at t1 t2 hb hsz ⊢
  have hm : (1 : Nat) ≤ maxLen := by unfold maxLen; omega
  have main := of_any [⟨some ⟨w.heap.size, 0, none⟩, [x], 1⟩] W (some ⟨w.heap.size + 1, 0, none⟩) 1 hm ?_ ?_ ?_ (hs.below hb (by have := Lies.lt hc; omega)) (hc.below hb (Lies.lt hc))
  · refine main.mono ?_
    rintro e w3 ⟨rfl, hb3⟩
    exact ⟨rfl, hb.trans (hb3.mono hb.size)⟩
  · intro p hp
    simp only [List.mem_cons, List.not_mem_nil, or_false] at hp
    subst hp
    exact good_new t1
  · intro _
    refine ⟨_, _, rfl, by omega, fun j hj => ?_⟩
    obtain rfl : j = 0 := by simp at hj; omega
    exact cell_of_row W _ _ _ _ _ t2
  · simp [joined]
/-- Of, of one byte and a hash. -/
theorem of_head (w : World) (g off : Nat) (F : List UInt8) (hF : F.length = 32) (hg : g < w.heap.size) (hsrc : Src w g off F) (hs : Starts w) (hc : Cubes w) :
    Calls Tryd.prog 10 #[.slice (some ⟨w.heap.size + 1, 0, none⟩) 2 2]
      ((w.alloc (.cells #[.int .u8 1] 5)).alloc (.cells #[.slice (some ⟨w.heap.size, 0, none⟩) 1 1, .slice (some ⟨g, off, none⟩) 32 32] 38))
      fun e w2 => e = .returned (.agg (B8 (sha (1 :: F)))) ∧ Below w.heap.size w w2 := by
  have e1 : (w.alloc (.cells #[.int .u8 1] 5)).heap.size = w.heap.size + 1 := by simp
  have t1 : ((w.alloc (.cells #[.int .u8 1] 5)).alloc (.cells #[.slice (some ⟨w.heap.size, 0, none⟩) 1 1, .slice (some ⟨g, off, none⟩) 32 32] 38)).heap[w.heap.size]? = some (.cells #[.int .u8 1] 5 (0, 0)) :=
    (Below.heap_alloc _ _ _ (by omega)).trans (Go.heap_alloc_new w (.cells #[.int .u8 1] 5))
  have t2 : ((w.alloc (.cells #[.int .u8 1] 5)).alloc (.cells #[.slice (some ⟨w.heap.size, 0, none⟩) 1 1, .slice (some ⟨g, off, none⟩) 32 32] 38)).heap[w.heap.size + 1]? = some (.cells #[.slice (some ⟨w.heap.size, 0, none⟩) 1 1, .slice (some ⟨g, off, none⟩) 32 32] 38 (0, 0)) := by
    rw [← e1]; exact Go.heap_alloc_new (w.alloc (.cells #[.int .u8 1] 5)) _
  have hb : Below w.heap.size w ((w.alloc (.cells #[.int .u8 1] 5)).alloc (.cells #[.slice (some ⟨w.heap.size, 0, none⟩) 1 1, .slice (some ⟨g, off, none⟩) 32 32] 38)) := ((Below.refl _ _).alloc (Nat.le_refl _) _).alloc (by omega) _
  have hsz : ((w.alloc (.cells #[.int .u8 1] 5)).alloc (.cells #[.slice (some ⟨w.heap.size, 0, none⟩) 1 1, .slice (some ⟨g, off, none⟩) 32 32] 38)).heap.size = w.heap.size + 1 + 1 := by simp
  generalize (w.alloc (.cells #[.int .u8 1] 5)).alloc (.cells #[.slice (some ⟨w.heap.size, 0, none⟩) 1 1, .slice (some ⟨g, off, none⟩) 32 32] 38) = W at t1 t2 hb hsz ⊢
  have hm : (2 : Nat) ≤ maxLen := by unfold maxLen; omega
  have hm2 : (32 : Nat) ≤ maxLen := by unfold maxLen; omega
  have hj : joined [⟨some ⟨w.heap.size, 0, none⟩, [1], 1⟩, ⟨some ⟨g, off, none⟩, F, 32⟩] = 1 :: F := by simp [joined]
  have main := of_any [⟨some ⟨w.heap.size, 0, none⟩, [1], 1⟩, ⟨some ⟨g, off, none⟩, F, 32⟩] W (some ⟨w.heap.size + 1, 0, none⟩) 2 hm ?_ ?_ ?_ (hs.below hb (by have := Lies.lt hc; omega)) (hc.below hb (Lies.lt hc))
  · rw [hj] at main
    refine main.mono ?_
    rintro e w3 ⟨rfl, hb3⟩
    exact ⟨rfl, hb.trans (hb3.mono hb.size)⟩
  · intro p hp
    simp only [List.mem_cons, List.not_mem_nil, or_false] at hp
    rcases hp with rfl | rfl
    · exact good_new t1
    · exact good_hash (by rw [hF]; exact Nat.le_refl _) hm2 (by omega) (hsrc.below hb hg)
  · intro _
    refine ⟨_, _, rfl, by omega, fun j hj => ?_⟩
    have hj2 : j = 0 ∨ j = 1 := by simp at hj; omega
    rcases hj2 with rfl | rfl
    · exact cell_of_row W _ _ _ _ _ t2
    · have := cell_of_row W _ 1 _ _ _ t2
      simpa [Part.val, hF] using this
  · rw [hj]; simp [hF]

set_option maxRecDepth 100000 in
set_option maxHeartbeats 2000000 in
theorem root_none (w : World) (v : Option Addr) (cap : Nat) (hs : Starts w) (hc : Cubes w) :
    Calls Tryd.prog 14 #[.slice v 0 cap] w fun e w' => e = .returned (.agg (B8 (root 0 []))) ∧ Below w.heap.size w w' := by
  rw [root_zero]
  have HS := Lib.hid hs
  have HC := Lib.hid hc
  clear hs hc
  go_enter Tryd.func14, Tryd.ntmps14
  go_wp2_with fail
  change Calls _ _ _ (((w.alloc (.cells z32 27)).alloc _).alloc _) _
  have hz := Lies.new w z32 27
  have hb := (Below.refl w.heap.size w).alloc (Nat.le_refl _) (.cells z32 27)
  have hs1 : Starts (w.alloc (.cells z32 27)) := Lies.alloc HS.out _
  have hc1 : Cubes (w.alloc (.cells z32 27)) := Lies.alloc HC.out _
  have e1 : w.heap.size + 1 = (w.alloc (.cells z32 27)).heap.size := by simp
  rw [e1]
  generalize w.alloc (.cells z32 27) = W0 at hz hb hs1 hc1 ⊢
  refine (of_zero W0 0 hs1 hc1).mono ?_
  rintro e w2 ⟨rfl, hb2⟩
  have hzz : (B8 (sha [0])).size = 32 := by rw [B8_size]; rfl
  have HZ := Lib.hid (hz.below hb2 hz.lt)
  have HB := Lib.hid (hb.trans (hb2.mono hb.size))
  clear hz hb hs1 hc1 hb2 e1
  go_wp2_with (refine wpList_store_row rfl 27 _ _ rfl w.heap.size (B8 (sha [0])) rfl rfl 27 z32 HZ.out (by rw [hzz]; exact info27) (by rw [hzz]; rfl) (B8_one _) ?_)
  refine bodyPost_ret (v := .agg (B8 (sha [0]))) (results_cell_row (p := 2) (ty := 27) (by kernel_rfl) _ _ w.heap.size 27 (B8 (sha [0])) (0, 0) _ rfl (HZ.out.setRow _) Tryd.underlying27 rfl (by rw [hzz]; exact info27)) rfl ⟨rfl, ?_⟩
  exact below_setRow HB.out _ _ (Nat.le_refl _)
set_option maxRecDepth 100000 in
set_option maxHeartbeats 2000000 in
theorem root_single (F : List UInt8) (w : World) (cap g off : Nat) (hF : F.length = 32)
    (hgw : g < w.heap.size) (hsrc : Src w g off F) (hs : Starts w) (hc : Cubes w) :
    Calls Tryd.prog 14 #[.slice (some ⟨g, off, none⟩) 1 cap] w fun e w' => e = .returned (.agg (B8 (root 1 F))) ∧ Below w.heap.size w w' := by
  rw [root_one]
  have HS := Lib.hid hs
  have HC := Lib.hid hc
  have HF := Lib.hid hF
  have HSRC := Lib.hid hsrc
  clear hs hc hF hsrc
  go_enter Tryd.func14, Tryd.ntmps14
  go_wp2_with fail
  change Calls _ _ _ (((w.alloc (.cells z32 27)).alloc _).alloc _) _
  have hz := Lies.new w z32 27
  have hb := (Below.refl w.heap.size w).alloc (Nat.le_refl _) (.cells z32 27)
  have hs1 : Starts (w.alloc (.cells z32 27)) := Lies.alloc HS.out _
  have hc1 : Cubes (w.alloc (.cells z32 27)) := Lies.alloc HC.out _
  have e1 : w.heap.size + 1 = (w.alloc (.cells z32 27)).heap.size := by simp
  have hsr : Src (w.alloc (.cells z32 27)) g off F := HSRC.out.below hb hgw
  have hg1 : g < (w.alloc (.cells z32 27)).heap.size := by simp; omega
  rw [e1]
  generalize w.alloc (.cells z32 27) = W0 at hz hb hs1 hc1 hsr hg1 ⊢
  refine (of_head W0 g off F HF.out hg1 hsr hs1 hc1).mono ?_
  rintro e w2 ⟨rfl, hb2⟩
  have hzz : (B8 (sha (1 :: F))).size = 32 := by rw [B8_size]; rfl
  have HZ := Lib.hid (hz.below hb2 hz.lt)
  have HB := Lib.hid (hb.trans (hb2.mono hb.size))
  clear hz hb hs1 hc1 hb2 e1 hsr hg1
  go_wp2_with (refine wpList_store_row rfl 27 _ _ rfl w.heap.size (B8 (sha (1 :: F))) rfl rfl 27 z32 HZ.out (by rw [hzz]; exact info27) (by rw [hzz]; rfl) (B8_one _) ?_)
  refine bodyPost_ret (v := .agg (B8 (sha (1 :: F)))) (results_cell_row (p := 2) (ty := 27) (by kernel_rfl) _ _ w.heap.size 27 (B8 (sha (1 :: F))) (0, 0) _ rfl (HZ.out.setRow _) Tryd.underlying27 rfl (by rw [hzz]; exact info27)) rfl ⟨rfl, ?_⟩
  exact below_setRow HB.out _ _ (Nat.le_refl _)

theorem root_upto : ∀ k, RootOf k
  | 0 => by
    intro m F w v cap hk _ hF _ _ _ hs hc
    obtain rfl : m = 0 := by omega
    obtain rfl : F = [] := List.eq_nil_of_length_eq_zero (by omega)
    exact root_none w v cap hs hc
  | k + 1 => by
    intro m F w v cap hk h40 hF hc1 hc2 hsrc hs hc
    by_cases h0 : m = 0
    · subst h0
      obtain rfl : F = [] := List.eq_nil_of_length_eq_zero (by omega)
      exact root_none w v cap hs hc
    · obtain ⟨g, off, rfl, hg, hx⟩ := hsrc (by omega)
      by_cases h1 : m = 1
      · subst h1
        exact root_single F w cap g off (by omega) hg hx hs hc
      · exact root_many k (root_upto k) m F w cap g off hk (by omega) h40 hF hc1 hc2 hg hx hs hc
theorem root_any (m : Nat) (F : List UInt8) (w : World) (v : Option Addr) (cap : Nat) (h40 : m ≤ 40) (hF : F.length = 32 * m) (hc1 : m ≤ cap) (hc2 : cap ≤ maxLen)
    (hsrc : 0 < m → ∃ g off, v = some ⟨g, off, none⟩ ∧ g < w.heap.size ∧ Src w g off F) (hs : Starts w) (hc : Cubes w) :
    Calls Tryd.prog 14 #[.slice v m cap] w fun e w' => e = .returned (.agg (B8 (root m F))) ∧ Below w.heap.size w w' :=
  root_upto m m F w v cap (Nat.le_refl _) h40 hF hc1 hc2 hsrc hs hc
end Go.Proofs.YtccfdobogbiomaaDoor
