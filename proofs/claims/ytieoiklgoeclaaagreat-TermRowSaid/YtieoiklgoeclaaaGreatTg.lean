/-
  The closures of tags (104) and maps (105).
-/
import Derived.Test.YtieoiklgoeclaaaGreatTv
namespace Go.Proofs.YtieoiklgoeclaaaGreat
open Go.RowKit

def tagIn (n : Int) : Bool := decide (0 ≤ n) && decide (n ≤ 2147483647)
set_option maxRecDepth 100000 in
set_option maxHeartbeats 1000000 in
theorem kindTag_any (w : World) (p q g off n nc gE gD i : Nat) (xs : List Nd) (h : KW w p q g off n nc gE gD xs) (hi : i < xs.length) :
    Calls Tryz.prog 86 #[.int .i64 i, .pointer (some ⟨p, 0, none⟩), .pointer (some ⟨q, 0, none⟩)] w fun e w' => e = .returned (.bool (tagIn xs[i].num && justB xs[i] ⟨0, xs[i].num, 0, ⟨#[]⟩, xs[i].kids⟩)) ∧ Below w.heap.size w w' := by
  obtain ⟨r, hr⟩ : ∃ r, r = justB xs[i] ⟨0, xs[i].num, 0, ⟨#[]⟩, xs[i].kids⟩ := ⟨_, rfl⟩
  have hj : ∀ V, Below w.heap.size w V → Calls Tryz.prog 80 #[.int .i64 i, .agg #[.int .i64 0, .int .i64 xs[i].num, .int .u64 0, .string ⟨#[]⟩, .int .i64 xs[i].kids], .pointer (some ⟨p, 0, none⟩)] V fun e w' => e = .returned (.bool r) ∧ Below w.heap.size w w' := fun V hV => by
    rw [hr]
    exact (just_any V p g off n nc gE gD i xs ⟨0, xs[i].num, 0, ⟨#[]⟩, xs[i].kids⟩ (h.below hV).lay (h.below hV).at_ h.len hi).mono fun e w' h => ⟨h.1, hV.trans (h.2.mono hV.size)⟩
  rw [← hr]
  have hS : ∀ V, Below w.heap.size w V → V.cell? ⟨p, 0, none⟩ = some (.slice (some ⟨g, off, none⟩) n nc) ∧ V.cell? ⟨q, 0, none⟩ = some (.func (Fn.func 80) #[] #[.pointer (some ⟨p, 0, none⟩)]) := fun V hV =>
    ⟨(h.below hV).lay.cell 0 rfl, (h.below hV).just.cell 0 rfl⟩
  have hx := h.at_.2 i hi
  obtain ⟨x, ex⟩ : ∃ x, x = xs[i] := ⟨_, rfl⟩
  rw [← ex] at hx hj ⊢
  obtain ⟨k1, n1, b1, t1, d1⟩ := x
  simp only at hj ⊢
  have q0 : (0 : Int) ≤ (i : Int) := by omega
  have q1 : (i : Int) < (n : Int) := by have := h.len; omega
  have x0 : w.cell? ⟨g, off + i * 5, none⟩ = some (.int .i64 k1) := hx 0 _ rfl
  have x1 : w.cell? ⟨g, off + i * 5 + 1, none⟩ = some (.int .i64 n1) := hx 1 _ rfl
  have x2 : w.cell? ⟨g, off + i * 5 + 2, none⟩ = some (.int .u64 b1) := hx 2 _ rfl
  have x3 : w.cell? ⟨g, off + i * 5 + 3, none⟩ = some (.string t1) := hx 3 _ rfl
  have x4 : w.cell? ⟨g, off + i * 5 + 4, none⟩ = some (.int .i64 d1) := hx 4 _ rfl
  obtain ⟨c0, k0⟩ := hS w (Below.refl _ _)
  have hA : Lies (w.alloc (.cells #[.int .i64 k1, .int .i64 n1, .int .u64 b1, .string t1, .int .i64 d1] 36)) w.heap.size #[.int .i64 k1, .int .i64 n1, .int .u64 b1, .string t1, .int .i64 d1] 36 := Lies.new _ _ _
  have hb0 : Below w.heap.size w (w.alloc (.cells #[.int .i64 k1, .int .i64 n1, .int .u64 b1, .string t1, .int .i64 d1] 36)) := (Below.refl _ _).alloc (Nat.le_refl _) _
  have HJ := Lib.hid hj
  have HS := Lib.hid hS
  obtain ⟨z, hz⟩ : ∃ z, z = (tagIn n1 && r) := ⟨_, rfl⟩
  rw [← hz]
  have HZ := Lib.hid hz
  clear h hi hr hj hS hx ex hz
  go_enter Tryz.func86, Tryz.ntmps86
  go_upto_region 2 with fail
  generalize w.alloc (.cells #[.int .i64 k1, .int .i64 n1, .int .u64 b1, .string t1, .int .i64 d1] 36) = W0 at hA hb0 ⊢
  clear x0 x1 x2 x3 x4 c0 k0
  obtain ⟨c0, k0⟩ := HS.out _ hb0
  have y1 := hA.cell 1 (v := .int .i64 n1) rfl
  have y4 := hA.cell 4 (v := .int .i64 d1) rfl
  have HB := Lib.hid hb0
  clear hA hb0
  by_cases a1 : 0 ≤ n1
  · by_cases a2 : n1 ≤ 2147483647
    · have e1 : Hid (z = r) := Lib.hid (by rw [HZ.out]; simp [tagIn, a1, a2])
      go_wp2_with fail
      refine (HJ.out _ HB.out).mono ?_
      rintro e w1 ⟨rfl, hb1⟩
      clear c0 k0 y1 y4
      go_wp2_with fail
      go_ret
      exact ⟨by rw [e1.out]; rfl, hb1⟩
    · have e1 : Hid (z = false) := Lib.hid (by rw [HZ.out]; simp [tagIn, a2])
      go_wp2_with fail
      go_ret
      exact ⟨by rw [e1.out]; rfl, HB.out⟩
  · have e1 : Hid (z = false) := Lib.hid (by rw [HZ.out]; simp [tagIn, a1])
    go_wp2_with fail
    go_ret
    exact ⟨by rw [e1.out]; rfl, HB.out⟩
/-- The box of a lay, and where it all ends. -/
structure KE (w : World) (p q g off n nc gE gD : Nat) (xs : List Nd) (E : Nat → Nat) : Prop where
  kw : KW w p q g off n nc gE gD xs
  row : Lies w gE (iv n E) 3
  ends : Ends xs E
  kids : KidsIn xs
  room : n ≤ nc
  few : n ≤ 1000000
theorem KE.below {w w' : World} {p q g off n nc gE gD : Nat} {xs : List Nd} {E : Nat → Nat} (h : KE w p q g off n nc gE gD xs E) (hb : Below w.heap.size w w') : KE w' p q g off n nc gE gD xs E :=
  ⟨h.kw.below hb, h.row.below hb h.row.lt, h.ends, h.kids, h.room, h.few⟩
/-- A map's keys, two by two, rise. -/
def mapB (xs : List Nd) (E : Nat → Nat) (i : Nat) (x : Nd) : Bool := decide (x.kids % 2 = 0) && (justB x ⟨0, 0, 0, ⟨#[]⟩, x.kids⟩ && riseB xs E (x.kids / 2).toNat (i + 1) none)
set_option maxRecDepth 100000 in
set_option maxHeartbeats 1000000 in
theorem kindMap_any (w : World) (p q g off n nc gE gD i : Nat) (xs : List Nd) (E : Nat → Nat) (h : KE w p q g off n nc gE gD xs E) (hi : i < xs.length) :
    Calls Tryz.prog 87 #[.int .i64 i, .pointer (some ⟨p, 0, none⟩), .pointer (some ⟨q, 0, none⟩)] w fun e w' => e = .returned (.bool (mapB xs E i xs[i])) ∧ Below w.heap.size w w' := by
  have hk := h.kids _ (List.getElem_mem hi)
  obtain ⟨m, hm⟩ : ∃ m, m = xs[i].kids := ⟨_, rfl⟩
  obtain ⟨r, hr⟩ : ∃ r, r = justB xs[i] ⟨0, 0, 0, ⟨#[]⟩, m⟩ := ⟨_, rfl⟩
  obtain ⟨u, hu⟩ : ∃ u, u = riseB xs E (m / 2).toNat (i + 1) none := ⟨_, rfl⟩
  have hR : mapB xs E i xs[i] = (decide (m % 2 = 0) && (r && u)) := by rw [hr, hu, hm]; rfl
  rw [hR]
  have hj : ∀ V, Below w.heap.size w V → Calls Tryz.prog 80 #[.int .i64 i, .agg #[.int .i64 0, .int .i64 0, .int .u64 0, .string ⟨#[]⟩, .int .i64 m], .pointer (some ⟨p, 0, none⟩)] V fun e w' => e = .returned (.bool r) ∧ Below w.heap.size w w' := fun V hV => by
    rw [hr]
    exact (just_any V p g off n nc gE gD i xs ⟨0, 0, 0, ⟨#[]⟩, m⟩ (h.below hV).kw.lay (h.below hV).kw.at_ h.kw.len hi).mono fun e w' h => ⟨h.1, hV.trans (h.2.mono hV.size)⟩
  have hq : m % 2 = 0 → ∀ V, Below w.heap.size w V → Calls Tryz.prog 88 #[.agg (layV (some ⟨g, off, none⟩) n nc gE gD), .int .i64 i] V fun e w' => e = .returned (.bool u) ∧ Below w.heap.size w w' := fun h2 V hV => by
    have hV2 := h.below hV
    have h0 := h.kw.len
    subst h0
    rw [hu]
    exact (rise_any V g off nc gE gD i (m / 2).toNat xs E hV2.row hV2.kw.at_ h.ends h.kids hi h.room h.few (by rw [← hm]; omega)).mono fun e w' h => ⟨h.1, hV.trans (h.2.mono hV.size)⟩
  have hS : ∀ V, Below w.heap.size w V → V.cell? ⟨p, 0, none⟩ = some (.slice (some ⟨g, off, none⟩) n nc) ∧ V.cell? ⟨p, 1, none⟩ = some (.slice (some ⟨gE, 0, none⟩) n n) ∧ V.cell? ⟨p, 2, none⟩ = some (.slice (some ⟨gD, 0, none⟩) n n) ∧ V.cell? ⟨q, 0, none⟩ = some (.func (Fn.func 80) #[] #[.pointer (some ⟨p, 0, none⟩)]) := fun V hV =>
    ⟨(h.below hV).kw.lay.cell 0 rfl, (h.below hV).kw.lay.cell 1 rfl, (h.below hV).kw.lay.cell 2 rfl, (h.below hV).kw.just.cell 0 rfl⟩
  have x4 : w.cell? ⟨g, off + i * 5 + 4, none⟩ = some (.int .i64 m) := by rw [hm]; exact h.kw.at_.2 i hi 4 _ rfl
  have q0 : (0 : Int) ≤ (i : Int) := by omega
  have q1 : (i : Int) < (n : Int) := by have := h.kw.len; omega
  have m0 : 0 ≤ m := by omega
  have m1 : m ≤ 1000000 := by omega
  obtain ⟨c0, c1, c2, k0⟩ := hS w (Below.refl _ _)
  have HJ := Lib.hid hj
  have HQ := Lib.hid hq
  have HS := Lib.hid hS
  unfold layV at HQ
  clear h hi hr hj hS hq hu hm hR hk
  by_cases h2 : m % 2 = 0
  · have e1 : (m % 2 == 0) = true := by simp [h2]
    have HC := Lib.hid (HQ.out h2)
    rw [decide_eq_true h2, Bool.true_and]
    obtain ⟨z, hz⟩ : ∃ z, z = (r && u) := ⟨_, rfl⟩
    rw [← hz]
    have HZ := Lib.hid hz
    clear h2 HQ hz
    go_enter Tryz.func87, Tryz.ntmps87
    go_wp2_with fail
    refine (HJ.out _ (Below.refl _ _)).mono ?_
    rintro e w1 ⟨rfl, hb1⟩
    clear c0 c1 c2 k0 x4
    obtain ⟨c0, c1, c2, k0⟩ := HS.out _ hb1
    have HB := Lib.hid hb1
    clear hb1
    cases r with
    | true =>
      have e1 : Hid (z = u) := Lib.hid (by rw [HZ.out, Bool.true_and])
      go_wp2_with fail
      refine (HC.out _ HB.out).mono ?_
      rintro e w2 ⟨rfl, hb2⟩
      clear c0 c1 c2 k0
      go_wp2_with fail
      go_ret
      exact ⟨by rw [e1.out]; rfl, hb2⟩
    | false =>
      have e1 : Hid (z = false) := Lib.hid (by rw [HZ.out, Bool.false_and])
      go_wp2_with fail
      go_ret
      exact ⟨by rw [e1.out]; rfl, HB.out⟩
  · have e1 : (m % 2 == 0) = false := by simp [h2]
    rw [decide_eq_false h2, Bool.false_and]
    clear h2 HQ
    go_enter Tryz.func87, Tryz.ntmps87
    go_wp2_with fail
    go_ret
    exact ⟨rfl, Below.refl _ _⟩
end Go.Proofs.YtieoiklgoeclaaaGreat
