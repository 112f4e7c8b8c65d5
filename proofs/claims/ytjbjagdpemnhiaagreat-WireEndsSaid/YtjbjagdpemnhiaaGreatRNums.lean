/-
  A reader's numbers, met and not met.
-/
import Derived.Test.YtjbjagdpemnhiaaGreatRText
import Derived.Test.YtjbjagdpemnhiaaGreatRNil
namespace Go.Proofs.YtjbjagdpemnhiaaGreat
open Go.RowKit

theorem rdr_one {w : World} {g k : Nat} {xs : List UInt8} {c a : Nat} (h : Rdr w g k xs c a false) (v1 : Value) (t1 : TypeId) :
    Rdr (w.alloc (.cells #[v1] t1)) g k xs c a false ∧ Below w.heap.size w (w.alloc (.cells #[v1] t1)) := by
  have hb : Below w.heap.size w (w.alloc (.cells #[v1] t1)) := (Below.refl _ _).alloc (Nat.le_refl _) _
  exact ⟨h.below hb, hb⟩
theorem beVal_take (xs : List UInt8) (a s : Nat) : beVal ((xs.drop a).take s) < 256 ^ s := by
  refine Nat.lt_of_lt_of_le (beVal_lt _) (Nat.pow_le_pow_right (by omega) ?_)
  rw [List.length_take]; omega
set_option maxRecDepth 100000 in
theorem num74_good (W : World) (p g k : Nat) (xs : List UInt8) (c a : Nat) (hp : W.cell? ⟨p, 0, none⟩ = some (.pointer (some ⟨g, 0, none⟩))) (h : Rdr W g k xs c a false) (hn : a + 1 ≤ xs.length) :
    Calls Tryz.prog 80 #[.pointer (some ⟨p, 0, none⟩)] W fun e W' => e = .returned (.int .i64 (beVal ((xs.drop a).take 1))) ∧ Rdr W' g k xs c (a + 1) false ∧ Only g W W' none := by
  have HU := Lib.hid (number_good W g k xs c a h 1 (by omega) hn)
  have hlt := beVal_take xs a 1
  have e256 : (256 : Nat) ^ 1 = 256 := by decide
  rw [e256] at hlt
  have hw : IntKind.i64.wrap (beVal ((xs.drop a).take 1) : Int) = beVal ((xs.drop a).take 1) := by rw [IntKind.wrap_i64]; omega
  clear h
  go_enter Tryz.func80, Tryz.ntmps80
  go_wp2_with fail
  refine HU.out.mono ?_
  rintro e w1 ⟨rfl, hr⟩
  have HR := Lib.hid hr
  clear hr
  go_wp2_with fail
  go_ret
  exact ⟨rfl, HR.out⟩
set_option maxRecDepth 100000 in
theorem num74_bad (W : World) (p g k : Nat) (xs : List UInt8) (c a : Nat) (hp : W.cell? ⟨p, 0, none⟩ = some (.pointer (some ⟨g, 0, none⟩))) (h : Rdr W g k xs c a false) (ha : a ≤ xs.length) (hn : xs.length < a + 1) :
    Calls Tryz.prog 80 #[.pointer (some ⟨p, 0, none⟩)] W fun e W' => Unmet e ∧ (∃ a', Rdr W' g k xs c a' false) ∧ Only g W W' none := by
  have hu := (number_bad W g k xs c a h ha 1 hn).mono (R' := fun e W' => Unmet e ∧ (∃ a', Rdr W' g k xs c a' false) ∧ Only g W W' none) fun e W' hh => ⟨hh.1, ⟨a, h.below hh.2⟩, only_below hh.2⟩
  have HU := Lib.hid hu
  clear h hu
  go_enter Tryz.func80, Tryz.ntmps80
  go_wp2_with fail
  refine HU.out.mono ?_
  rintro e w1 ⟨⟨v, rfl⟩, hr⟩
  have HR := Lib.hid hr
  clear hr
  go_wp2_with fail
  exact ⟨rfl, ⟨_, rfl⟩, HR.out⟩
set_option maxRecDepth 100000 in
theorem ask25_good (w : World) (g k : Nat) (xs : List UInt8) (c a : Nat) (h : Rdr w g k xs c a false) (hn : a + 1 ≤ xs.length) :
    Calls Tryz.prog 45 #[.pointer (some ⟨g, 0, none⟩)] w fun e w' => e = .returned (.int .i64 (beVal ((xs.drop a).take 1))) ∧ Rdr w' g k xs c (a + 1) false ∧ Only g w w' none := by
  have hmf : ∀ (fn : Fn) (first cap : Array Value) (w : World), (Instr.makeFunc fn first cap).run Tryz.prog w = .ok (.func fn first cap) w := fun _ _ _ _ => rfl
  obtain ⟨hr, hb⟩ := rdr_one h (.pointer (some ⟨g, 0, none⟩)) 44
  have ht := tell73_met _ g k xs c a (a + 1) (.int .i64 (beVal ((xs.drop a).take 1))) 80 #[.pointer (some ⟨w.heap.size, 0, none⟩)] hr (callK 80 Tryz.f80 Tryz.func80 (by kernel_rfl) (by kernel_rfl) _)
    (fun W hW hR => num74_good W _ g k xs c a (by rw [hW.cell (p := ⟨w.heap.size, 0, none⟩) (by simp)]; simp [go_sem]) hR hn)
  have HT := Lib.hid ht
  have HB := Lib.hid hb
  clear ht hb hr h
  go_enter Tryz.func45, Tryz.ntmps45
  go_wp2_with fail
  refine HT.out.mono ?_
  rintro e w1 ⟨rfl, hr, ho⟩
  have HR := Lib.hid (And.intro hr ((only_below HB.out).trans0 ho))
  clear hr ho
  go_wp2_with fail
  go_ret
  exact ⟨rfl, HR.out⟩
set_option maxRecDepth 100000 in
theorem ask25_bad (w : World) (g k : Nat) (xs : List UInt8) (c a : Nat) (h : Rdr w g k xs c a false) (ha : a ≤ xs.length) (hn : xs.length < a + 1) :
    Calls Tryz.prog 45 #[.pointer (some ⟨g, 0, none⟩)] w fun e w' => e = .returned (.int .i64 0) ∧ Rdr w' g k xs c a true ∧ Only g w w' none := by
  have hmf : ∀ (fn : Fn) (first cap : Array Value) (w : World), (Instr.makeFunc fn first cap).run Tryz.prog w = .ok (.func fn first cap) w := fun _ _ _ _ => rfl
  obtain ⟨hr, hb⟩ := rdr_one h (.pointer (some ⟨g, 0, none⟩)) 44
  have ht := tell73_unmet _ g k xs c a 80 #[.pointer (some ⟨w.heap.size, 0, none⟩)] hr (callK 80 Tryz.f80 Tryz.func80 (by kernel_rfl) (by kernel_rfl) _)
    (fun W hW hR => num74_bad W _ g k xs c a (by rw [hW.cell (p := ⟨w.heap.size, 0, none⟩) (by simp)]; simp [go_sem]) hR ha hn)
  have HT := Lib.hid ht
  have HB := Lib.hid hb
  clear ht hb hr h
  go_enter Tryz.func45, Tryz.ntmps45
  go_wp2_with fail
  refine HT.out.mono ?_
  rintro e w1 ⟨rfl, hr, ho⟩
  have HR := Lib.hid (And.intro hr ((only_below HB.out).trans0 ho))
  clear hr ho
  go_wp2_with fail
  go_ret
  exact ⟨rfl, HR.out⟩
set_option maxRecDepth 100000 in
theorem num89_good (W : World) (p g k : Nat) (xs : List UInt8) (c a : Nat) (hp : W.cell? ⟨p, 0, none⟩ = some (.pointer (some ⟨g, 0, none⟩))) (h : Rdr W g k xs c a false) (hn : a + 2 ≤ xs.length) :
    Calls Tryz.prog 82 #[.pointer (some ⟨p, 0, none⟩)] W fun e W' => e = .returned (.int .i64 (beVal ((xs.drop a).take 2))) ∧ Rdr W' g k xs c (a + 2) false ∧ Only g W W' none := by
  have HU := Lib.hid (number_good W g k xs c a h 2 (by omega) hn)
  have hlt := beVal_take xs a 2
  have e256 : (256 : Nat) ^ 2 = 65536 := by decide
  rw [e256] at hlt
  have hw : IntKind.i64.wrap (beVal ((xs.drop a).take 2) : Int) = beVal ((xs.drop a).take 2) := by rw [IntKind.wrap_i64]; omega
  clear h
  go_enter Tryz.func82, Tryz.ntmps82
  go_wp2_with fail
  refine HU.out.mono ?_
  rintro e w1 ⟨rfl, hr⟩
  have HR := Lib.hid hr
  clear hr
  go_wp2_with fail
  go_ret
  exact ⟨rfl, HR.out⟩
set_option maxRecDepth 100000 in
theorem num89_bad (W : World) (p g k : Nat) (xs : List UInt8) (c a : Nat) (hp : W.cell? ⟨p, 0, none⟩ = some (.pointer (some ⟨g, 0, none⟩))) (h : Rdr W g k xs c a false) (ha : a ≤ xs.length) (hn : xs.length < a + 2) :
    Calls Tryz.prog 82 #[.pointer (some ⟨p, 0, none⟩)] W fun e W' => Unmet e ∧ (∃ a', Rdr W' g k xs c a' false) ∧ Only g W W' none := by
  have hu := (number_bad W g k xs c a h ha 2 hn).mono (R' := fun e W' => Unmet e ∧ (∃ a', Rdr W' g k xs c a' false) ∧ Only g W W' none) fun e W' hh => ⟨hh.1, ⟨a, h.below hh.2⟩, only_below hh.2⟩
  have HU := Lib.hid hu
  clear h hu
  go_enter Tryz.func82, Tryz.ntmps82
  go_wp2_with fail
  refine HU.out.mono ?_
  rintro e w1 ⟨⟨v, rfl⟩, hr⟩
  have HR := Lib.hid hr
  clear hr
  go_wp2_with fail
  exact ⟨rfl, ⟨_, rfl⟩, HR.out⟩
set_option maxRecDepth 100000 in
theorem ask53_good (w : World) (g k : Nat) (xs : List UInt8) (c a : Nat) (h : Rdr w g k xs c a false) (hn : a + 2 ≤ xs.length) :
    Calls Tryz.prog 46 #[.pointer (some ⟨g, 0, none⟩)] w fun e w' => e = .returned (.int .i64 (beVal ((xs.drop a).take 2))) ∧ Rdr w' g k xs c (a + 2) false ∧ Only g w w' none := by
  have hmf : ∀ (fn : Fn) (first cap : Array Value) (w : World), (Instr.makeFunc fn first cap).run Tryz.prog w = .ok (.func fn first cap) w := fun _ _ _ _ => rfl
  obtain ⟨hr, hb⟩ := rdr_one h (.pointer (some ⟨g, 0, none⟩)) 44
  have ht := tell73_met _ g k xs c a (a + 2) (.int .i64 (beVal ((xs.drop a).take 2))) 82 #[.pointer (some ⟨w.heap.size, 0, none⟩)] hr (callK 82 Tryz.f82 Tryz.func82 (by kernel_rfl) (by kernel_rfl) _)
    (fun W hW hR => num89_good W _ g k xs c a (by rw [hW.cell (p := ⟨w.heap.size, 0, none⟩) (by simp)]; simp [go_sem]) hR hn)
  have HT := Lib.hid ht
  have HB := Lib.hid hb
  clear ht hb hr h
  go_enter Tryz.func46, Tryz.ntmps46
  go_wp2_with fail
  refine HT.out.mono ?_
  rintro e w1 ⟨rfl, hr, ho⟩
  have HR := Lib.hid (And.intro hr ((only_below HB.out).trans0 ho))
  clear hr ho
  go_wp2_with fail
  go_ret
  exact ⟨rfl, HR.out⟩
set_option maxRecDepth 100000 in
theorem ask53_bad (w : World) (g k : Nat) (xs : List UInt8) (c a : Nat) (h : Rdr w g k xs c a false) (ha : a ≤ xs.length) (hn : xs.length < a + 2) :
    Calls Tryz.prog 46 #[.pointer (some ⟨g, 0, none⟩)] w fun e w' => e = .returned (.int .i64 0) ∧ Rdr w' g k xs c a true ∧ Only g w w' none := by
  have hmf : ∀ (fn : Fn) (first cap : Array Value) (w : World), (Instr.makeFunc fn first cap).run Tryz.prog w = .ok (.func fn first cap) w := fun _ _ _ _ => rfl
  obtain ⟨hr, hb⟩ := rdr_one h (.pointer (some ⟨g, 0, none⟩)) 44
  have ht := tell73_unmet _ g k xs c a 82 #[.pointer (some ⟨w.heap.size, 0, none⟩)] hr (callK 82 Tryz.f82 Tryz.func82 (by kernel_rfl) (by kernel_rfl) _)
    (fun W hW hR => num89_bad W _ g k xs c a (by rw [hW.cell (p := ⟨w.heap.size, 0, none⟩) (by simp)]; simp [go_sem]) hR ha hn)
  have HT := Lib.hid ht
  have HB := Lib.hid hb
  clear ht hb hr h
  go_enter Tryz.func46, Tryz.ntmps46
  go_wp2_with fail
  refine HT.out.mono ?_
  rintro e w1 ⟨rfl, hr, ho⟩
  have HR := Lib.hid (And.intro hr ((only_below HB.out).trans0 ho))
  clear hr ho
  go_wp2_with fail
  go_ret
  exact ⟨rfl, HR.out⟩
set_option maxRecDepth 100000 in
theorem num90_good (W : World) (p g k : Nat) (xs : List UInt8) (c a : Nat) (hp : W.cell? ⟨p, 0, none⟩ = some (.pointer (some ⟨g, 0, none⟩))) (h : Rdr W g k xs c a false) (hn : a + 4 ≤ xs.length) :
    Calls Tryz.prog 83 #[.pointer (some ⟨p, 0, none⟩)] W fun e W' => e = .returned (.int .i64 (beVal ((xs.drop a).take 4))) ∧ Rdr W' g k xs c (a + 4) false ∧ Only g W W' none := by
  have HU := Lib.hid (number_good W g k xs c a h 4 (by omega) hn)
  have hlt := beVal_take xs a 4
  have e256 : (256 : Nat) ^ 4 = 4294967296 := by decide
  rw [e256] at hlt
  have hw : IntKind.i64.wrap (beVal ((xs.drop a).take 4) : Int) = beVal ((xs.drop a).take 4) := by rw [IntKind.wrap_i64]; omega
  clear h
  go_enter Tryz.func83, Tryz.ntmps83
  go_wp2_with fail
  refine HU.out.mono ?_
  rintro e w1 ⟨rfl, hr⟩
  have HR := Lib.hid hr
  clear hr
  go_wp2_with fail
  go_ret
  exact ⟨rfl, HR.out⟩
set_option maxRecDepth 100000 in
theorem num90_bad (W : World) (p g k : Nat) (xs : List UInt8) (c a : Nat) (hp : W.cell? ⟨p, 0, none⟩ = some (.pointer (some ⟨g, 0, none⟩))) (h : Rdr W g k xs c a false) (ha : a ≤ xs.length) (hn : xs.length < a + 4) :
    Calls Tryz.prog 83 #[.pointer (some ⟨p, 0, none⟩)] W fun e W' => Unmet e ∧ (∃ a', Rdr W' g k xs c a' false) ∧ Only g W W' none := by
  have hu := (number_bad W g k xs c a h ha 4 hn).mono (R' := fun e W' => Unmet e ∧ (∃ a', Rdr W' g k xs c a' false) ∧ Only g W W' none) fun e W' hh => ⟨hh.1, ⟨a, h.below hh.2⟩, only_below hh.2⟩
  have HU := Lib.hid hu
  clear h hu
  go_enter Tryz.func83, Tryz.ntmps83
  go_wp2_with fail
  refine HU.out.mono ?_
  rintro e w1 ⟨⟨v, rfl⟩, hr⟩
  have HR := Lib.hid hr
  clear hr
  go_wp2_with fail
  exact ⟨rfl, ⟨_, rfl⟩, HR.out⟩
set_option maxRecDepth 100000 in
theorem ask54_good (w : World) (g k : Nat) (xs : List UInt8) (c a : Nat) (h : Rdr w g k xs c a false) (hn : a + 4 ≤ xs.length) :
    Calls Tryz.prog 47 #[.pointer (some ⟨g, 0, none⟩)] w fun e w' => e = .returned (.int .i64 (beVal ((xs.drop a).take 4))) ∧ Rdr w' g k xs c (a + 4) false ∧ Only g w w' none := by
  have hmf : ∀ (fn : Fn) (first cap : Array Value) (w : World), (Instr.makeFunc fn first cap).run Tryz.prog w = .ok (.func fn first cap) w := fun _ _ _ _ => rfl
  obtain ⟨hr, hb⟩ := rdr_one h (.pointer (some ⟨g, 0, none⟩)) 44
  have ht := tell73_met _ g k xs c a (a + 4) (.int .i64 (beVal ((xs.drop a).take 4))) 83 #[.pointer (some ⟨w.heap.size, 0, none⟩)] hr (callK 83 Tryz.f83 Tryz.func83 (by kernel_rfl) (by kernel_rfl) _)
    (fun W hW hR => num90_good W _ g k xs c a (by rw [hW.cell (p := ⟨w.heap.size, 0, none⟩) (by simp)]; simp [go_sem]) hR hn)
  have HT := Lib.hid ht
  have HB := Lib.hid hb
  clear ht hb hr h
  go_enter Tryz.func47, Tryz.ntmps47
  go_wp2_with fail
  refine HT.out.mono ?_
  rintro e w1 ⟨rfl, hr, ho⟩
  have HR := Lib.hid (And.intro hr ((only_below HB.out).trans0 ho))
  clear hr ho
  go_wp2_with fail
  go_ret
  exact ⟨rfl, HR.out⟩
set_option maxRecDepth 100000 in
theorem ask54_bad (w : World) (g k : Nat) (xs : List UInt8) (c a : Nat) (h : Rdr w g k xs c a false) (ha : a ≤ xs.length) (hn : xs.length < a + 4) :
    Calls Tryz.prog 47 #[.pointer (some ⟨g, 0, none⟩)] w fun e w' => e = .returned (.int .i64 0) ∧ Rdr w' g k xs c a true ∧ Only g w w' none := by
  have hmf : ∀ (fn : Fn) (first cap : Array Value) (w : World), (Instr.makeFunc fn first cap).run Tryz.prog w = .ok (.func fn first cap) w := fun _ _ _ _ => rfl
  obtain ⟨hr, hb⟩ := rdr_one h (.pointer (some ⟨g, 0, none⟩)) 44
  have ht := tell73_unmet _ g k xs c a 83 #[.pointer (some ⟨w.heap.size, 0, none⟩)] hr (callK 83 Tryz.f83 Tryz.func83 (by kernel_rfl) (by kernel_rfl) _)
    (fun W hW hR => num90_bad W _ g k xs c a (by rw [hW.cell (p := ⟨w.heap.size, 0, none⟩) (by simp)]; simp [go_sem]) hR ha hn)
  have HT := Lib.hid ht
  have HB := Lib.hid hb
  clear ht hb hr h
  go_enter Tryz.func47, Tryz.ntmps47
  go_wp2_with fail
  refine HT.out.mono ?_
  rintro e w1 ⟨rfl, hr, ho⟩
  have HR := Lib.hid (And.intro hr ((only_below HB.out).trans0 ho))
  clear hr ho
  go_wp2_with fail
  go_ret
  exact ⟨rfl, HR.out⟩
set_option maxRecDepth 100000 in
theorem num92_good (W : World) (p g k : Nat) (xs : List UInt8) (c a : Nat) (hp : W.cell? ⟨p, 0, none⟩ = some (.pointer (some ⟨g, 0, none⟩))) (h : Rdr W g k xs c a false) (hn : a + 8 ≤ xs.length) :
    Calls Tryz.prog 85 #[.pointer (some ⟨p, 0, none⟩)] W fun e W' => e = .returned (.int .u64 (beVal ((xs.drop a).take 8))) ∧ Rdr W' g k xs c (a + 8) false ∧ Only g W W' none := by
  have HU := Lib.hid (number_good W g k xs c a h 8 (by omega) hn)
  clear h
  go_enter Tryz.func85, Tryz.ntmps85
  go_wp2_with fail
  refine HU.out.mono ?_
  rintro e w1 ⟨rfl, hr⟩
  have HR := Lib.hid hr
  clear hr
  go_wp2_with fail
  go_ret
  exact ⟨rfl, HR.out⟩
set_option maxRecDepth 100000 in
theorem num92_bad (W : World) (p g k : Nat) (xs : List UInt8) (c a : Nat) (hp : W.cell? ⟨p, 0, none⟩ = some (.pointer (some ⟨g, 0, none⟩))) (h : Rdr W g k xs c a false) (ha : a ≤ xs.length) (hn : xs.length < a + 8) :
    Calls Tryz.prog 85 #[.pointer (some ⟨p, 0, none⟩)] W fun e W' => Unmet e ∧ (∃ a', Rdr W' g k xs c a' false) ∧ Only g W W' none := by
  have hu := (number_bad W g k xs c a h ha 8 hn).mono (R' := fun e W' => Unmet e ∧ (∃ a', Rdr W' g k xs c a' false) ∧ Only g W W' none) fun e W' hh => ⟨hh.1, ⟨a, h.below hh.2⟩, only_below hh.2⟩
  have HU := Lib.hid hu
  clear h hu
  go_enter Tryz.func85, Tryz.ntmps85
  go_wp2_with fail
  refine HU.out.mono ?_
  rintro e w1 ⟨⟨v, rfl⟩, hr⟩
  have HR := Lib.hid hr
  clear hr
  go_wp2_with fail
  exact ⟨rfl, ⟨_, rfl⟩, HR.out⟩
set_option maxRecDepth 100000 in
theorem ask55_good (w : World) (g k : Nat) (xs : List UInt8) (c a : Nat) (h : Rdr w g k xs c a false) (hn : a + 8 ≤ xs.length) :
    Calls Tryz.prog 48 #[.pointer (some ⟨g, 0, none⟩)] w fun e w' => e = .returned (.int .u64 (beVal ((xs.drop a).take 8))) ∧ Rdr w' g k xs c (a + 8) false ∧ Only g w w' none := by
  have hmf : ∀ (fn : Fn) (first cap : Array Value) (w : World), (Instr.makeFunc fn first cap).run Tryz.prog w = .ok (.func fn first cap) w := fun _ _ _ _ => rfl
  obtain ⟨hr, hb⟩ := rdr_one h (.pointer (some ⟨g, 0, none⟩)) 44
  have ht := tell91_met _ g k xs c a (a + 8) (.int .u64 (beVal ((xs.drop a).take 8))) 85 #[.pointer (some ⟨w.heap.size, 0, none⟩)] hr (callK 85 Tryz.f85 Tryz.func85 (by kernel_rfl) (by kernel_rfl) _)
    (fun W hW hR => num92_good W _ g k xs c a (by rw [hW.cell (p := ⟨w.heap.size, 0, none⟩) (by simp)]; simp [go_sem]) hR hn)
  have HT := Lib.hid ht
  have HB := Lib.hid hb
  clear ht hb hr h
  go_enter Tryz.func48, Tryz.ntmps48
  go_wp2_with fail
  refine HT.out.mono ?_
  rintro e w1 ⟨rfl, hr, ho⟩
  have HR := Lib.hid (And.intro hr ((only_below HB.out).trans0 ho))
  clear hr ho
  go_wp2_with fail
  go_ret
  exact ⟨rfl, HR.out⟩
set_option maxRecDepth 100000 in
theorem ask55_bad (w : World) (g k : Nat) (xs : List UInt8) (c a : Nat) (h : Rdr w g k xs c a false) (ha : a ≤ xs.length) (hn : xs.length < a + 8) :
    Calls Tryz.prog 48 #[.pointer (some ⟨g, 0, none⟩)] w fun e w' => e = .returned (.int .u64 0) ∧ Rdr w' g k xs c a true ∧ Only g w w' none := by
  have hmf : ∀ (fn : Fn) (first cap : Array Value) (w : World), (Instr.makeFunc fn first cap).run Tryz.prog w = .ok (.func fn first cap) w := fun _ _ _ _ => rfl
  obtain ⟨hr, hb⟩ := rdr_one h (.pointer (some ⟨g, 0, none⟩)) 44
  have ht := tell91_unmet _ g k xs c a 85 #[.pointer (some ⟨w.heap.size, 0, none⟩)] hr (callK 85 Tryz.f85 Tryz.func85 (by kernel_rfl) (by kernel_rfl) _)
    (fun W hW hR => num92_bad W _ g k xs c a (by rw [hW.cell (p := ⟨w.heap.size, 0, none⟩) (by simp)]; simp [go_sem]) hR ha hn)
  have HT := Lib.hid ht
  have HB := Lib.hid hb
  clear ht hb hr h
  go_enter Tryz.func48, Tryz.ntmps48
  go_wp2_with fail
  refine HT.out.mono ?_
  rintro e w1 ⟨rfl, hr, ho⟩
  have HR := Lib.hid (And.intro hr ((only_below HB.out).trans0 ho))
  clear hr ho
  go_wp2_with fail
  go_ret
  exact ⟨rfl, HR.out⟩
set_option maxRecDepth 100000 in
theorem num94_good (W : World) (p g k : Nat) (xs : List UInt8) (c a : Nat) (hp : W.cell? ⟨p, 0, none⟩ = some (.pointer (some ⟨g, 0, none⟩))) (h : Rdr W g k xs c a false) (hn : a + 8 ≤ xs.length) :
    Calls Tryz.prog 87 #[.pointer (some ⟨p, 0, none⟩)] W fun e W' => e = .returned (.int .i64 (IntKind.i64.wrap (beVal ((xs.drop a).take 8)))) ∧ Rdr W' g k xs c (a + 8) false ∧ Only g W W' none := by
  have HU := Lib.hid (number_good W g k xs c a h 8 (by omega) hn)
  obtain ⟨z, hz⟩ : ∃ z, IntKind.i64.wrap (beVal ((xs.drop a).take 8) : Int) = z := ⟨_, rfl⟩
  rw [hz]
  clear h
  go_enter Tryz.func87, Tryz.ntmps87
  go_wp2_with fail
  refine HU.out.mono ?_
  rintro e w1 ⟨rfl, hr⟩
  have HR := Lib.hid hr
  clear hr
  go_wp2_with fail
  go_ret
  exact ⟨rfl, HR.out⟩
set_option maxRecDepth 100000 in
theorem num94_bad (W : World) (p g k : Nat) (xs : List UInt8) (c a : Nat) (hp : W.cell? ⟨p, 0, none⟩ = some (.pointer (some ⟨g, 0, none⟩))) (h : Rdr W g k xs c a false) (ha : a ≤ xs.length) (hn : xs.length < a + 8) :
    Calls Tryz.prog 87 #[.pointer (some ⟨p, 0, none⟩)] W fun e W' => Unmet e ∧ (∃ a', Rdr W' g k xs c a' false) ∧ Only g W W' none := by
  have hu := (number_bad W g k xs c a h ha 8 hn).mono (R' := fun e W' => Unmet e ∧ (∃ a', Rdr W' g k xs c a' false) ∧ Only g W W' none) fun e W' hh => ⟨hh.1, ⟨a, h.below hh.2⟩, only_below hh.2⟩
  have HU := Lib.hid hu
  clear h hu
  go_enter Tryz.func87, Tryz.ntmps87
  go_wp2_with fail
  refine HU.out.mono ?_
  rintro e w1 ⟨⟨v, rfl⟩, hr⟩
  have HR := Lib.hid hr
  clear hr
  go_wp2_with fail
  exact ⟨rfl, ⟨_, rfl⟩, HR.out⟩
set_option maxRecDepth 100000 in
theorem ask56_good (w : World) (g k : Nat) (xs : List UInt8) (c a : Nat) (h : Rdr w g k xs c a false) (hn : a + 8 ≤ xs.length) :
    Calls Tryz.prog 49 #[.pointer (some ⟨g, 0, none⟩)] w fun e w' => e = .returned (.int .i64 (IntKind.i64.wrap (beVal ((xs.drop a).take 8)))) ∧ Rdr w' g k xs c (a + 8) false ∧ Only g w w' none := by
  have hmf : ∀ (fn : Fn) (first cap : Array Value) (w : World), (Instr.makeFunc fn first cap).run Tryz.prog w = .ok (.func fn first cap) w := fun _ _ _ _ => rfl
  obtain ⟨hr, hb⟩ := rdr_one h (.pointer (some ⟨g, 0, none⟩)) 44
  have ht := tell93_met _ g k xs c a (a + 8) (.int .i64 (IntKind.i64.wrap (beVal ((xs.drop a).take 8)))) 87 #[.pointer (some ⟨w.heap.size, 0, none⟩)] hr (callK 87 Tryz.f87 Tryz.func87 (by kernel_rfl) (by kernel_rfl) _)
    (fun W hW hR => num94_good W _ g k xs c a (by rw [hW.cell (p := ⟨w.heap.size, 0, none⟩) (by simp)]; simp [go_sem]) hR hn)
  have HT := Lib.hid ht
  have HB := Lib.hid hb
  clear ht hb hr h
  go_enter Tryz.func49, Tryz.ntmps49
  go_wp2_with fail
  refine HT.out.mono ?_
  rintro e w1 ⟨rfl, hr, ho⟩
  have HR := Lib.hid (And.intro hr ((only_below HB.out).trans0 ho))
  clear hr ho
  go_wp2_with fail
  go_ret
  exact ⟨rfl, HR.out⟩
set_option maxRecDepth 100000 in
theorem ask56_bad (w : World) (g k : Nat) (xs : List UInt8) (c a : Nat) (h : Rdr w g k xs c a false) (ha : a ≤ xs.length) (hn : xs.length < a + 8) :
    Calls Tryz.prog 49 #[.pointer (some ⟨g, 0, none⟩)] w fun e w' => e = .returned (.int .i64 0) ∧ Rdr w' g k xs c a true ∧ Only g w w' none := by
  have hmf : ∀ (fn : Fn) (first cap : Array Value) (w : World), (Instr.makeFunc fn first cap).run Tryz.prog w = .ok (.func fn first cap) w := fun _ _ _ _ => rfl
  obtain ⟨hr, hb⟩ := rdr_one h (.pointer (some ⟨g, 0, none⟩)) 44
  have ht := tell93_unmet _ g k xs c a 87 #[.pointer (some ⟨w.heap.size, 0, none⟩)] hr (callK 87 Tryz.f87 Tryz.func87 (by kernel_rfl) (by kernel_rfl) _)
    (fun W hW hR => num94_bad W _ g k xs c a (by rw [hW.cell (p := ⟨w.heap.size, 0, none⟩) (by simp)]; simp [go_sem]) hR ha hn)
  have HT := Lib.hid ht
  have HB := Lib.hid hb
  clear ht hb hr h
  go_enter Tryz.func49, Tryz.ntmps49
  go_wp2_with fail
  refine HT.out.mono ?_
  rintro e w1 ⟨rfl, hr, ho⟩
  have HR := Lib.hid (And.intro hr ((only_below HB.out).trans0 ho))
  clear hr ho
  go_wp2_with fail
  go_ret
  exact ⟨rfl, HR.out⟩
end Go.Proofs.YtjbjagdpemnhiaaGreat
