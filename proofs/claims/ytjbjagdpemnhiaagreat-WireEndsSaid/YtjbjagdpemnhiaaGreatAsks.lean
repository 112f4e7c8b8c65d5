/-
  Asks that the chapter's example needs: Count, Flag, Text; Left, End, Err.
-/
import Derived.Test.YtjbjagdpemnhiaaGreatWByt
import Derived.Deep.RegionHeld3
import Derived.Laws.IdiomStrings
namespace Go.Proofs.YtjbjagdpemnhiaaGreat
open Go.RowKit

theorem rdr_pair {w : World} {g k : Nat} {xs : List UInt8} {c a : Nat} (h : Rdr w g k xs c a false) (v1 v2 : Value) (t1 t2 : TypeId) :
    Rdr ((w.alloc (.cells #[v1] t1)).alloc (.cells #[v2] t2)) g k xs c a false ∧ Below w.heap.size w ((w.alloc (.cells #[v1] t1)).alloc (.cells #[v2] t2)) := by
  have hb : Below w.heap.size w ((w.alloc (.cells #[v1] t1)).alloc (.cells #[v2] t2)) := ((Below.refl _ _).alloc (Nat.le_refl _) _).alloc (by simp) _
  exact ⟨h.below hb, hb⟩
/-- Count's closure. -/
theorem count1_good (W : World) (p q g k : Nat) (xs : List UInt8) (c a : Nat) (m : Int) (hp : W.cell? ⟨p, 0, none⟩ = some (.pointer (some ⟨g, 0, none⟩))) (hq : W.cell? ⟨q, 0, none⟩ = some (.int .i64 m)) (h : Rdr W g k xs c a false)
    (hn : a + 2 ≤ xs.length) (hm : (beVal ((xs.drop a).take 2) : Int) ≤ m) :
    Calls Tryz.prog 69 #[.pointer (some ⟨p, 0, none⟩), .pointer (some ⟨q, 0, none⟩)] W fun e W' => e = .returned (.int .i64 (beVal ((xs.drop a).take 2))) ∧ Rdr W' g k xs c (a + 2) false ∧ Only g W W' none := by
  have HU := Lib.hid (upto_good W g k xs c a h m 2 (by omega) hn hm)
  clear h hm
  go_enter Tryz.func69, Tryz.ntmps69
  go_wp2_with fail
  refine HU.out.mono ?_
  rintro e w1 ⟨rfl, hr⟩
  have HR := Lib.hid hr
  clear hr
  go_wp2_with fail
  go_ret
  exact ⟨rfl, HR.out⟩
theorem count1_bad (W : World) (p q g k : Nat) (xs : List UInt8) (c a : Nat) (m : Int) (hp : W.cell? ⟨p, 0, none⟩ = some (.pointer (some ⟨g, 0, none⟩))) (hq : W.cell? ⟨q, 0, none⟩ = some (.int .i64 m)) (h : Rdr W g k xs c a false) (ha : a ≤ xs.length)
    (hm : xs.length < a + 2 ∨ m < beVal ((xs.drop a).take 2)) :
    Calls Tryz.prog 69 #[.pointer (some ⟨p, 0, none⟩), .pointer (some ⟨q, 0, none⟩)] W fun e W' => Unmet e ∧ (∃ a', Rdr W' g k xs c a' false) ∧ Only g W W' none := by
  have hu : Calls Tryz.prog 70 #[.pointer (some ⟨g, 0, none⟩), .int .i64 m, .int .i64 2] W fun e W' => Unmet e ∧ (∃ a', Rdr W' g k xs c a' false) ∧ Only g W W' none := by
    by_cases hs : xs.length < a + 2
    · exact (upto_short W g k xs c a h ha m 2 hs).mono fun e W' hh => ⟨hh.1, ⟨a, h.below hh.2⟩, only_below hh.2⟩
    · exact (upto_great W g k xs c a h m 2 (by omega) (by omega) (by omega)).mono fun e W' hh => ⟨hh.1, ⟨_, hh.2.1⟩, hh.2.2⟩
  have HU := Lib.hid hu
  clear h hu hm
  go_enter Tryz.func69, Tryz.ntmps69
  go_wp2_with fail
  refine HU.out.mono ?_
  rintro e w1 ⟨⟨v, rfl⟩, hr⟩
  have HR := Lib.hid hr
  clear hr
  go_wp2_with fail
  exact ⟨rfl, ⟨_, rfl⟩, HR.out⟩
set_option maxRecDepth 100000 in
theorem count_good (w : World) (g k : Nat) (xs : List UInt8) (c a : Nat) (m : Int) (h : Rdr w g k xs c a false) (hn : a + 2 ≤ xs.length) (hm : (beVal ((xs.drop a).take 2) : Int) ≤ m) :
    Calls Tryz.prog 19 #[.pointer (some ⟨g, 0, none⟩), .int .i64 m] w fun e w' => e = .returned (.int .i64 (beVal ((xs.drop a).take 2))) ∧ Rdr w' g k xs c (a + 2) false ∧ Only g w w' none := by
  have hmf : ∀ (fn : Fn) (first cap : Array Value) (w : World), (Instr.makeFunc fn first cap).run Tryz.prog w = .ok (.func fn first cap) w := fun _ _ _ _ => rfl
  obtain ⟨hr, hb⟩ := rdr_pair h (.pointer (some ⟨g, 0, none⟩)) (.int .i64 m) 44 3
  have ht := tell73_met _ g k xs c a (a + 2) (.int .i64 (beVal ((xs.drop a).take 2))) 69 #[.pointer (some ⟨w.heap.size, 0, none⟩), .pointer (some ⟨w.heap.size + 1, 0, none⟩)] hr (callK 69 Tryz.f69 Tryz.func69 (by kernel_rfl) (by kernel_rfl) _)
    (fun W hW hR => count1_good W _ _ g k xs c a m (by rw [hW.cell (p := ⟨w.heap.size, 0, none⟩) (by simp; omega)]; simp [go_sem]) (by rw [hW.cell (p := ⟨w.heap.size + 1, 0, none⟩) (by simp)]; simp [go_sem]) hR hn hm)
  have HT := Lib.hid ht
  have HB := Lib.hid hb
  clear ht hb hr h hm
  go_enter Tryz.func19, Tryz.ntmps19
  go_wp2_with fail
  refine HT.out.mono ?_
  rintro e w1 ⟨rfl, hr, ho⟩
  have HR := Lib.hid (And.intro hr ((only_below HB.out).trans0 ho))
  clear hr ho
  go_wp2_with fail
  go_ret
  exact ⟨rfl, HR.out⟩
set_option maxRecDepth 100000 in
theorem count_bad (w : World) (g k : Nat) (xs : List UInt8) (c a : Nat) (m : Int) (h : Rdr w g k xs c a false) (ha : a ≤ xs.length) (hm : xs.length < a + 2 ∨ m < beVal ((xs.drop a).take 2)) :
    Calls Tryz.prog 19 #[.pointer (some ⟨g, 0, none⟩), .int .i64 m] w fun e w' => e = .returned (.int .i64 0) ∧ Rdr w' g k xs c a true ∧ Only g w w' none := by
  have hmf : ∀ (fn : Fn) (first cap : Array Value) (w : World), (Instr.makeFunc fn first cap).run Tryz.prog w = .ok (.func fn first cap) w := fun _ _ _ _ => rfl
  obtain ⟨hr, hb⟩ := rdr_pair h (.pointer (some ⟨g, 0, none⟩)) (.int .i64 m) 44 3
  have ht := tell73_unmet _ g k xs c a 69 #[.pointer (some ⟨w.heap.size, 0, none⟩), .pointer (some ⟨w.heap.size + 1, 0, none⟩)] hr (callK 69 Tryz.f69 Tryz.func69 (by kernel_rfl) (by kernel_rfl) _)
    (fun W hW hR => count1_bad W _ _ g k xs c a m (by rw [hW.cell (p := ⟨w.heap.size, 0, none⟩) (by simp; omega)]; simp [go_sem]) (by rw [hW.cell (p := ⟨w.heap.size + 1, 0, none⟩) (by simp)]; simp [go_sem]) hR ha hm)
  have HT := Lib.hid ht
  have HB := Lib.hid hb
  clear ht hb hr h hm
  go_enter Tryz.func19, Tryz.ntmps19
  go_wp2_with fail
  refine HT.out.mono ?_
  rintro e w1 ⟨rfl, hr, ho⟩
  have HR := Lib.hid (And.intro hr ((only_below HB.out).trans0 ho))
  clear hr ho
  go_wp2_with fail
  go_ret
  exact ⟨rfl, HR.out⟩
/-- Flag's closure. -/
theorem flag1_good (W : World) (p g k : Nat) (xs : List UInt8) (c a : Nat) (hp : W.cell? ⟨p, 0, none⟩ = some (.pointer (some ⟨g, 0, none⟩))) (h : Rdr W g k xs c a false)
    (hn : a + 1 ≤ xs.length) (hm : (beVal ((xs.drop a).take 1) : Int) ≤ 1) :
    Calls Tryz.prog 75 #[.pointer (some ⟨p, 0, none⟩)] W fun e W' => e = .returned (.bool (decide (beVal ((xs.drop a).take 1) = 1))) ∧ Rdr W' g k xs c (a + 1) false ∧ Only g W W' none := by
  have hu := upto_good W g k xs c a h 1 1 (by omega) hn hm
  generalize beVal ((xs.drop a).take 1) = v at hu ⊢
  obtain ⟨t, ht⟩ : ∃ t, decide (v = 1) = t := ⟨_, rfl⟩
  have hb : ((v : Int) == 1) = t := by rw [← ht, Bool.eq_iff_iff, beq_iff_eq, decide_eq_true_eq]; omega
  rw [ht]
  have HU := Lib.hid hu
  clear h hm hu ht
  go_enter Tryz.func75, Tryz.ntmps75
  go_wp2_with fail
  refine HU.out.mono ?_
  rintro e w1 ⟨rfl, hr⟩
  have HR := Lib.hid hr
  clear hr
  go_wp2_with fail
  go_ret
  exact ⟨rfl, HR.out⟩
set_option maxRecDepth 100000 in
theorem flag_good (w : World) (g k : Nat) (xs : List UInt8) (c a : Nat) (h : Rdr w g k xs c a false) (hn : a + 1 ≤ xs.length) (hm : (beVal ((xs.drop a).take 1) : Int) ≤ 1) :
    Calls Tryz.prog 21 #[.pointer (some ⟨g, 0, none⟩)] w fun e w' => e = .returned (.bool (decide (beVal ((xs.drop a).take 1) = 1))) ∧ Rdr w' g k xs c (a + 1) false ∧ Only g w w' none := by
  have hmf : ∀ (fn : Fn) (first cap : Array Value) (w : World), (Instr.makeFunc fn first cap).run Tryz.prog w = .ok (.func fn first cap) w := fun _ _ _ _ => rfl
  have hb : Below w.heap.size w (w.alloc (.cells #[.pointer (some ⟨g, 0, none⟩)] 44)) := (Below.refl _ _).alloc (Nat.le_refl _) _
  have hr := h.below hb
  have ht := tell85_met _ g k xs c a (a + 1) (.bool (decide (beVal ((xs.drop a).take 1) = 1))) 75 #[.pointer (some ⟨w.heap.size, 0, none⟩)] hr (callK 75 Tryz.f75 Tryz.func75 (by kernel_rfl) (by kernel_rfl) _)
    (fun W hW hR => flag1_good W _ g k xs c a (by rw [hW.cell (p := ⟨w.heap.size, 0, none⟩) (by simp)]; simp [go_sem]) hR hn hm)
  have HT := Lib.hid ht
  have HB := Lib.hid hb
  clear ht hb hr h hm
  generalize decide (beVal ((xs.drop a).take 1) = 1) = t at HT ⊢
  go_enter Tryz.func21, Tryz.ntmps21
  go_wp2_with fail
  refine HT.out.mono ?_
  rintro e w1 ⟨rfl, hr, ho⟩
  have HR := Lib.hid (And.intro hr ((only_below HB.out).trans0 ho))
  clear hr ho
  go_wp2_with fail
  go_ret
  exact ⟨rfl, HR.out⟩

/-! ## Left, End, Err -/
set_option maxRecDepth 100000 in
theorem left_good (w : World) (g k : Nat) (xs : List UInt8) (c a : Nat) (h : Rdr w g k xs c a false) (ha : a ≤ xs.length) :
    Calls Tryz.prog 52 #[.pointer (some ⟨g, 0, none⟩)] w fun e w' => e = .returned (.int .i64 (xs.length - a : Nat)) ∧ Below w.heap.size w w' := by
  have ht := tells_self w g false (h.1.cell 0 rfl) (h.1.cell 1 rfl)
  obtain ⟨A, c', hrs⟩ := h.form
  have c2 : w.cell? ⟨g, 2, none⟩ = some (RS k xs.length c) := h.1.cell 2 rfl
  rw [hrs] at c2
  clear hrs
  have c3 : w.cell? ⟨g, 3, none⟩ = some (.int .i64 a) := h.1.cell 3 rfl
  obtain ⟨_, _, _, _, hx, _, _⟩ := h
  have hw : IntKind.i64.wrap ((xs.length : Int) - a) = ((xs.length - a : Nat) : Int) := by rw [IntKind.wrap_i64]; omega
  go_enter Tryz.func52, Tryz.ntmps52
  go_wp2_with fail
  refine ht.mono ?_
  rintro e w1 ⟨rfl, rfl⟩
  clear ht
  go_wp2_with fail
  go_quiet (fail)
  go_wp2_with fail
  go_ret
  exact ⟨rfl, below_drewN w _⟩
set_option maxRecDepth 100000 in
theorem end_good (w : World) (g k : Nat) (xs : List UInt8) (c a : Nat) (h : Rdr w g k xs c a false) (ha : a ≤ xs.length) :
    Calls Tryz.prog 22 #[.pointer (some ⟨g, 0, none⟩)] w fun e w' => e = .returned (.bool (decide (a = xs.length))) ∧ Below w.heap.size w w' := by
  have ht := tells_self w g false (h.1.cell 0 rfl) (h.1.cell 1 rfl)
  have hl := left_good w g k xs c a h ha
  obtain ⟨t, ht2⟩ : ∃ t, decide (a = xs.length) = t := ⟨_, rfl⟩
  have hb : (((xs.length - a : Nat) : Int) == 0) = t := by rw [← ht2, Bool.eq_iff_iff, beq_iff_eq, decide_eq_true_eq]; omega
  rw [ht2]
  have HL := Lib.hid hl
  clear ht2 hl h ha
  generalize xs.length - a = n at HL hb
  go_enter Tryz.func22, Tryz.ntmps22
  go_wp2_with fail
  refine ht.mono ?_
  rintro e w1 ⟨rfl, rfl⟩
  clear ht
  go_wp2_with fail
  refine HL.out.mono ?_
  rintro e w1 ⟨rfl, hbl⟩
  have HB := Lib.hid hbl
  clear hbl
  go_wp2_with fail
  go_ret
  exact ⟨rfl, HB.out⟩
set_option maxRecDepth 100000 in
theorem err_any (w : World) (g k : Nat) (xs : List UInt8) (c a : Nat) (sp : Bool) (h : Rdr w g k xs c a sp) :
    Calls Tryz.prog 23 #[.pointer (some ⟨g, 0, none⟩)] w fun e w' => e = .returned (.int .i64 (if sp then 4 else 0)) ∧ w = w' := by
  have ha := answered_self w g (h.1.cell 0 rfl)
  have c1 : w.cell? ⟨g, 1, none⟩ = some (.bool sp) := h.1.cell 1 rfl
  clear h
  cases sp
  all_goals
    go_enter Tryz.func23, Tryz.ntmps23
    go_wp2_with fail
    refine ha.mono ?_
    rintro e w1 ⟨rfl, rfl⟩
    clear ha
    go_wp2_with fail
    go_ret
    exact ⟨rfl, rfl⟩
end Go.Proofs.YtjbjagdpemnhiaaGreat
