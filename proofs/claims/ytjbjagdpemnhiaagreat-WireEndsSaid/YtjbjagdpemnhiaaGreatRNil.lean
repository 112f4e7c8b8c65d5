/-
  Asks of a reader that tells nothing: none, one that nobody made, a spoilt one. They turn nothing that is there.
-/
import Derived.Test.YtjbjagdpemnhiaaGreatAsks
namespace Go.Proofs.YtjbjagdpemnhiaaGreat
open Go.RowKit


set_option maxRecDepth 100000 in
theorem ask25_idle (w : World) (p : Option Addr) (h : Idle w p) : Calls Tryz.prog 45 #[.pointer p] w fun e w' => e = .returned (.int .i64 0) ∧ Below w.heap.size w w' := by
  have hmf : ∀ (fn : Fn) (first cap : Array Value) (w : World), (Instr.makeFunc fn first cap).run Tryz.prog w = .ok (.func fn first cap) w := fun _ _ _ _ => rfl
  have hb : Below w.heap.size w (w.alloc (.cells #[.pointer p] 44)) := (Below.refl _ _).alloc (Nat.le_refl _) _
  have ht := tell73_idle _ p (.func (Fn.func 80) #[] #[.pointer (some ⟨w.heap.size, 0, none⟩)]) (h.below hb)
  have HT := Lib.hid ht
  have HB := Lib.hid hb
  clear ht hb h
  go_enter Tryz.func45, Tryz.ntmps45
  go_wp2_with fail
  refine HT.out.mono ?_
  rintro e w1 ⟨rfl, hb1⟩
  have HB1 := Lib.hid hb1
  clear hb1
  go_wp2_with fail
  go_ret
  exact ⟨rfl, HB.out.trans (HB1.out.mono HB.out.size)⟩

set_option maxRecDepth 100000 in
theorem ask53_idle (w : World) (p : Option Addr) (h : Idle w p) : Calls Tryz.prog 46 #[.pointer p] w fun e w' => e = .returned (.int .i64 0) ∧ Below w.heap.size w w' := by
  have hmf : ∀ (fn : Fn) (first cap : Array Value) (w : World), (Instr.makeFunc fn first cap).run Tryz.prog w = .ok (.func fn first cap) w := fun _ _ _ _ => rfl
  have hb : Below w.heap.size w (w.alloc (.cells #[.pointer p] 44)) := (Below.refl _ _).alloc (Nat.le_refl _) _
  have ht := tell73_idle _ p (.func (Fn.func 82) #[] #[.pointer (some ⟨w.heap.size, 0, none⟩)]) (h.below hb)
  have HT := Lib.hid ht
  have HB := Lib.hid hb
  clear ht hb h
  go_enter Tryz.func46, Tryz.ntmps46
  go_wp2_with fail
  refine HT.out.mono ?_
  rintro e w1 ⟨rfl, hb1⟩
  have HB1 := Lib.hid hb1
  clear hb1
  go_wp2_with fail
  go_ret
  exact ⟨rfl, HB.out.trans (HB1.out.mono HB.out.size)⟩

set_option maxRecDepth 100000 in
theorem ask54_idle (w : World) (p : Option Addr) (h : Idle w p) : Calls Tryz.prog 47 #[.pointer p] w fun e w' => e = .returned (.int .i64 0) ∧ Below w.heap.size w w' := by
  have hmf : ∀ (fn : Fn) (first cap : Array Value) (w : World), (Instr.makeFunc fn first cap).run Tryz.prog w = .ok (.func fn first cap) w := fun _ _ _ _ => rfl
  have hb : Below w.heap.size w (w.alloc (.cells #[.pointer p] 44)) := (Below.refl _ _).alloc (Nat.le_refl _) _
  have ht := tell73_idle _ p (.func (Fn.func 83) #[] #[.pointer (some ⟨w.heap.size, 0, none⟩)]) (h.below hb)
  have HT := Lib.hid ht
  have HB := Lib.hid hb
  clear ht hb h
  go_enter Tryz.func47, Tryz.ntmps47
  go_wp2_with fail
  refine HT.out.mono ?_
  rintro e w1 ⟨rfl, hb1⟩
  have HB1 := Lib.hid hb1
  clear hb1
  go_wp2_with fail
  go_ret
  exact ⟨rfl, HB.out.trans (HB1.out.mono HB.out.size)⟩

set_option maxRecDepth 100000 in
theorem ask55_idle (w : World) (p : Option Addr) (h : Idle w p) : Calls Tryz.prog 48 #[.pointer p] w fun e w' => e = .returned (.int .u64 0) ∧ Below w.heap.size w w' := by
  have hmf : ∀ (fn : Fn) (first cap : Array Value) (w : World), (Instr.makeFunc fn first cap).run Tryz.prog w = .ok (.func fn first cap) w := fun _ _ _ _ => rfl
  have hb : Below w.heap.size w (w.alloc (.cells #[.pointer p] 44)) := (Below.refl _ _).alloc (Nat.le_refl _) _
  have ht := tell91_idle _ p (.func (Fn.func 85) #[] #[.pointer (some ⟨w.heap.size, 0, none⟩)]) (h.below hb)
  have HT := Lib.hid ht
  have HB := Lib.hid hb
  clear ht hb h
  go_enter Tryz.func48, Tryz.ntmps48
  go_wp2_with fail
  refine HT.out.mono ?_
  rintro e w1 ⟨rfl, hb1⟩
  have HB1 := Lib.hid hb1
  clear hb1
  go_wp2_with fail
  go_ret
  exact ⟨rfl, HB.out.trans (HB1.out.mono HB.out.size)⟩

set_option maxRecDepth 100000 in
theorem ask56_idle (w : World) (p : Option Addr) (h : Idle w p) : Calls Tryz.prog 49 #[.pointer p] w fun e w' => e = .returned (.int .i64 0) ∧ Below w.heap.size w w' := by
  have hmf : ∀ (fn : Fn) (first cap : Array Value) (w : World), (Instr.makeFunc fn first cap).run Tryz.prog w = .ok (.func fn first cap) w := fun _ _ _ _ => rfl
  have hb : Below w.heap.size w (w.alloc (.cells #[.pointer p] 44)) := (Below.refl _ _).alloc (Nat.le_refl _) _
  have ht := tell93_idle _ p (.func (Fn.func 87) #[] #[.pointer (some ⟨w.heap.size, 0, none⟩)]) (h.below hb)
  have HT := Lib.hid ht
  have HB := Lib.hid hb
  clear ht hb h
  go_enter Tryz.func49, Tryz.ntmps49
  go_wp2_with fail
  refine HT.out.mono ?_
  rintro e w1 ⟨rfl, hb1⟩
  have HB1 := Lib.hid hb1
  clear hb1
  go_wp2_with fail
  go_ret
  exact ⟨rfl, HB.out.trans (HB1.out.mono HB.out.size)⟩

set_option maxRecDepth 100000 in
theorem ask33_idle (w : World) (p : Option Addr) (h : Idle w p) : Calls Tryz.prog 21 #[.pointer p] w fun e w' => e = .returned (.bool false) ∧ Below w.heap.size w w' := by
  have hmf : ∀ (fn : Fn) (first cap : Array Value) (w : World), (Instr.makeFunc fn first cap).run Tryz.prog w = .ok (.func fn first cap) w := fun _ _ _ _ => rfl
  have hb : Below w.heap.size w (w.alloc (.cells #[.pointer p] 44)) := (Below.refl _ _).alloc (Nat.le_refl _) _
  have ht := tell85_idle _ p (.func (Fn.func 75) #[] #[.pointer (some ⟨w.heap.size, 0, none⟩)]) (h.below hb)
  have HT := Lib.hid ht
  have HB := Lib.hid hb
  clear ht hb h
  go_enter Tryz.func21, Tryz.ntmps21
  go_wp2_with fail
  refine HT.out.mono ?_
  rintro e w1 ⟨rfl, hb1⟩
  have HB1 := Lib.hid hb1
  clear hb1
  go_wp2_with fail
  go_ret
  exact ⟨rfl, HB.out.trans (HB1.out.mono HB.out.size)⟩

set_option maxRecDepth 100000 in
theorem ask26_idle (w : World) (p : Option Addr) (m : Int) (h : Idle w p) : Calls Tryz.prog 51 #[.pointer p, .int .i64 m] w fun e w' => e = .returned (.slice none 0 0) ∧ Below w.heap.size w w' := by
  have hmf : ∀ (fn : Fn) (first cap : Array Value) (w : World), (Instr.makeFunc fn first cap).run Tryz.prog w = .ok (.func fn first cap) w := fun _ _ _ _ => rfl
  have hb : Below w.heap.size w ((w.alloc (.cells #[.pointer p] 44)).alloc (.cells #[.int .i64 m] 3)) := ((Below.refl _ _).alloc (Nat.le_refl _) _).alloc (by simp) _
  have ht := tell76_idle _ p (.func (Fn.func 91) #[] #[.pointer (some ⟨w.heap.size, 0, none⟩), .pointer (some ⟨w.heap.size + 1, 0, none⟩)]) (h.below hb)
  have HT := Lib.hid ht
  have HB := Lib.hid hb
  clear ht hb h
  go_enter Tryz.func51, Tryz.ntmps51
  go_wp2_with fail
  refine HT.out.mono ?_
  rintro e w1 ⟨rfl, hb1⟩
  have HB1 := Lib.hid hb1
  clear hb1
  go_wp2_with fail
  go_ret
  exact ⟨rfl, HB.out.trans (HB1.out.mono HB.out.size)⟩

set_option maxRecDepth 100000 in
theorem ask31_idle (w : World) (p : Option Addr) (m : Int) (h : Idle w p) : Calls Tryz.prog 19 #[.pointer p, .int .i64 m] w fun e w' => e = .returned (.int .i64 0) ∧ Below w.heap.size w w' := by
  have hmf : ∀ (fn : Fn) (first cap : Array Value) (w : World), (Instr.makeFunc fn first cap).run Tryz.prog w = .ok (.func fn first cap) w := fun _ _ _ _ => rfl
  have hb : Below w.heap.size w ((w.alloc (.cells #[.pointer p] 44)).alloc (.cells #[.int .i64 m] 3)) := ((Below.refl _ _).alloc (Nat.le_refl _) _).alloc (by simp) _
  have ht := tell73_idle _ p (.func (Fn.func 69) #[] #[.pointer (some ⟨w.heap.size, 0, none⟩), .pointer (some ⟨w.heap.size + 1, 0, none⟩)]) (h.below hb)
  have HT := Lib.hid ht
  have HB := Lib.hid hb
  clear ht hb h
  go_enter Tryz.func19, Tryz.ntmps19
  go_wp2_with fail
  refine HT.out.mono ?_
  rintro e w1 ⟨rfl, hb1⟩
  have HB1 := Lib.hid hb1
  clear hb1
  go_wp2_with fail
  go_ret
  exact ⟨rfl, HB.out.trans (HB1.out.mono HB.out.size)⟩

set_option maxRecDepth 100000 in
theorem ask32_idle (w : World) (p : Option Addr) (m : Int) (h : Idle w p) : Calls Tryz.prog 20 #[.pointer p, .int .i64 m] w fun e w' => e = .returned (.string ⟨#[]⟩) ∧ Below w.heap.size w w' := by
  have hmf : ∀ (fn : Fn) (first cap : Array Value) (w : World), (Instr.makeFunc fn first cap).run Tryz.prog w = .ok (.func fn first cap) w := fun _ _ _ _ => rfl
  have hb : Below w.heap.size w ((w.alloc (.cells #[.pointer p] 44)).alloc (.cells #[.int .i64 m] 3)) := ((Below.refl _ _).alloc (Nat.le_refl _) _).alloc (by simp) _
  have ht := tell83_idle _ p (.func (Fn.func 72) #[] #[.pointer (some ⟨w.heap.size, 0, none⟩), .pointer (some ⟨w.heap.size + 1, 0, none⟩)]) (h.below hb)
  have HT := Lib.hid ht
  have HB := Lib.hid hb
  clear ht hb h
  go_enter Tryz.func20, Tryz.ntmps20
  go_wp2_with fail
  refine HT.out.mono ?_
  rintro e w1 ⟨rfl, hb1⟩
  have HB1 := Lib.hid hb1
  clear hb1
  go_wp2_with fail
  go_ret
  exact ⟨rfl, HB.out.trans (HB1.out.mono HB.out.size)⟩

set_option maxRecDepth 100000 in
theorem left_idle (w : World) (p : Option Addr) (h : Idle w p) : Calls Tryz.prog 52 #[.pointer p] w fun e w' => e = .returned (.int .i64 0) ∧ w = w' := by
  have ht := tells_idle w p h
  go_enter Tryz.func52, Tryz.ntmps52
  go_wp2_with fail
  refine ht.mono ?_
  rintro e w1 ⟨rfl, rfl⟩
  clear ht
  go_wp2_with fail
  go_ret
  exact ⟨rfl, rfl⟩
set_option maxRecDepth 100000 in
theorem end_idle (w : World) (p : Option Addr) (h : Idle w p) : Calls Tryz.prog 22 #[.pointer p] w fun e w' => e = .returned (.bool false) ∧ w = w' := by
  have ht := tells_idle w p h
  go_enter Tryz.func22, Tryz.ntmps22
  go_wp2_with fail
  refine ht.mono ?_
  rintro e w1 ⟨rfl, rfl⟩
  clear ht
  go_wp2_with fail
  go_ret
  exact ⟨rfl, rfl⟩
/-- No reader, or one that nobody made. -/
def Nobody (w : World) (p : Option Addr) : Prop := p = none ∨ ∃ g, p = some ⟨g, 0, none⟩ ∧ g < w.heap.size ∧ w.cell? ⟨g, 0, none⟩ = some (.pointer none)
theorem Nobody.idle {w : World} {p : Option Addr} (h : Nobody w p) : Idle w p := by
  rcases h with h | ⟨g, h1, h2, h3⟩
  · exact .inl h
  · exact .inr ⟨g, h1, h2, .inl h3⟩
theorem Nobody.below {w w' : World} {p : Option Addr} (h : Nobody w p) (hb : Below w.heap.size w w') : Nobody w' p := by
  rcases h with h | ⟨g, h1, h2, h3⟩
  · exact .inl h
  · exact .inr ⟨g, h1, Nat.lt_of_lt_of_le h2 hb.size, (hb.cell (p := ⟨g, 0, none⟩) h2).trans h3⟩
set_option maxRecDepth 100000 in
theorem err_nobody (w : World) (p : Option Addr) (h : Nobody w p) : Calls Tryz.prog 23 #[.pointer p] w fun e w' => e = .returned (.int .i64 1) ∧ w = w' := by
  rcases h with rfl | ⟨g, rfl, _, h⟩
  · go_enter Tryz.func23, Tryz.ntmps23
    go_wp2
    go_ret
    exact ⟨rfl, rfl⟩
  · have ha := answered_none w g h
    go_enter Tryz.func23, Tryz.ntmps23
    go_wp2_with fail
    refine ha.mono ?_
    rintro e w1 ⟨rfl, rfl⟩
    clear ha
    go_wp2_with fail
    go_ret
    exact ⟨rfl, rfl⟩
theorem wbytes_nobody (w : World) (p : Option Addr) (h : Nobody w p) : Calls Tryz.prog 11 #[.pointer p] w fun e w' => e = .returned (.tuple #[.slice none 0 0, .int .i64 1]) ∧ w = w' := by
  rcases h with rfl | ⟨g, rfl, _, h⟩
  · exact wbytes_nil w
  · exact wbytes_none w g h
theorem tmod_ten (n : Int) : (0 ≤ n.tmod 10 → n.tmod 10 = n % 10) ∧ (n.tmod 10 < 0 → n.tmod 10 + 10 = n % 10) ∧ -9 ≤ n.tmod 10 ∧ n.tmod 10 ≤ 9 := by
  rcases Int.le_total 0 n with h | h
  · have := Int.tmod_eq_emod_of_nonneg (b := 10) h
    omega
  · have h1 := Int.tmod_eq_emod_of_nonneg (b := 10) (show 0 ≤ -n by omega)
    rw [Int.neg_tmod] at h1
    omega
theorem pick_any (n : Int) (w : World) : Calls Tryz.prog 25 #[.int .i64 n, .int .i64 10] w fun e w' => e = .returned (.int .i64 (n % 10)) ∧ w = w' := by
  obtain ⟨h1, h2, h3, h4⟩ := tmod_ten n
  obtain ⟨r, hr⟩ : ∃ r, n.tmod 10 = r := ⟨_, rfl⟩
  rw [hr] at h1 h2 h3 h4
  obtain ⟨q, hq⟩ : ∃ q, q = n % 10 := ⟨_, rfl⟩
  rw [← hq] at h1 h2 ⊢
  have hw : IntKind.i64.wrap r = r := by rw [IntKind.wrap_i64]; omega
  by_cases h : r < 0
  · have e := h2 h
    have hw2 : IntKind.i64.wrap (r + 10) = q := by rw [IntKind.wrap_i64]; omega
    have HE := Lib.hid e
    clear h1 h2 hq e
    go_enter Tryz.func25, Tryz.ntmps25
    go_wp2
    go_ret
    exact ⟨by rw [← HE.out]; rfl, rfl⟩
  · have e := h1 (by omega)
    subst e
    clear h1 h2 hq
    go_enter Tryz.func25, Tryz.ntmps25
    go_wp2
    go_ret
    exact ⟨rfl, rfl⟩
end Go.Proofs.YtjbjagdpemnhiaaGreat
