/-
  Asks of slices (44, 47): what is told, or nil where a term is thrown.
-/
import Derived.Test.YtieoiklgoeclaaaTjn
namespace Go.Proofs.Ytieoiklgoeclaaa
open Go.RowKit

/-- A slice is told, of which this holds. -/
def SliceR (w : World) (R : Value → World → Prop) (e : Ending) (w' : World) : Prop := ∃ a n c, e = .returned (.slice a n c) ∧ R (.slice a n c) w' ∧ Below w.heap.size w w'

theorem catchTs_panicking (p q : Addr) (x y : Value) (u : TypeId) (pv : Value) (older : List PanicEntry) (w : World) (a1 : Option Addr) (n1 c1 : Nat) (hx : x = .slice a1 n1 c1) (hp : w.cell? p = some x) (hc : w.cell? q = some y) (hz : w.frozen? q = false) :
    CallsD Try.prog 74 #[.pointer (some p), .pointer (some q)] (.panicking ({ v := .iface u pv, recovered := false } :: older)) w fun e u' w' =>
      e = .returned (.tuple #[]) ∧ u' = .panicking ({ v := .iface u pv, recovered := true } :: older) ∧ w' = w.setCell q x := by
  subst hx
  refine callsD_of_wpS Try.func74 rfl fun c₀ cs hu => ?_
  apply wpS_seq
  apply wpS_region
  simp [wpOpsS, go_sem, recoverD, hu, Try.ntmps74, Exit.thenS]
  refine wpS_cond (t := true) (by simp [Act.eval, Array.replicate]) ?_
  simp only [if_true]
  apply wpS_region
  simp [wpOpsS, go_sem, hp, hc, hz, bodyPostS, results, Try.results74]
theorem catchTs_idle (p q : Addr) (w : World) :
    CallsD Try.prog 74 #[.pointer (some p), .pointer (some q)] .returning w fun e u' w' => e = .returned (.tuple #[]) ∧ u' = .returning ∧ w' = w := by
  refine callsD_of_wpS Try.func74 rfl fun c₀ cs hu => ?_
  apply wpS_seq
  apply wpS_region
  simp [wpOpsS, go_sem, recoverD, hu, Try.ntmps74, Exit.thenS]
  refine wpS_cond (t := false) (by simp [Act.eval, Array.replicate]) ?_
  simp only [Bool.false_eq_true, if_false]
  refine wpS_of_wp (wp_skip ?_)
  cases c₀
  simp_all [bodyPostS, results, Try.results74]
set_option maxRecDepth 100000 in
theorem askTs_ok (w : World) (K : Nat) (cap : Array Value) (R : Value → World → Prop)
    (hR : ∀ v V x, R v V → R v (V.setCell ⟨w.heap.size + 1, 0, none⟩ x))
    (hK : ∀ w : World, (callFunc K cap).run Try.prog w = .ok (.enter K cap) w) (hbe : ∀ w1, Below w.heap.size w w1 → w.heap.size + 2 ≤ w1.heap.size → Calls Try.prog K cap w1 fun e w2 => ∃ a n c, e = .returned (.slice a n c) ∧ R (.slice a n c) w2 ∧ Below w1.heap.size w1 w2) :
    Calls Try.prog 44 #[.slice none 0 0, .func (Fn.func K) #[] cap] w (SliceR w R) := by
  have hmf : ∀ (fn : Fn) (first cap : Array Value) (w : World), (Instr.makeFunc fn first cap).run Try.prog w = .ok (.func fn first cap) w := fun _ _ _ _ => rfl
  have hb : Below w.heap.size w ((w.alloc (.cells #[.slice none 0 0] 34)).alloc (.cells #[.slice none 0 0] 34)) := ((Below.refl _ _).alloc (Nat.le_refl _) _).alloc (by simp) _
  have hc2 := hbe _ hb (by simp)
  have HC := Lib.hid hc2
  have HB := Lib.hid hb
  have HR := Lib.hid hR
  clear hb hc2 hbe hR
  go_enter_defers Try.func44, Try.ntmps44
  go_wp2_with fail
  refine HC.out.mono ?_
  rintro e w2 ⟨a, n, c, rfl, hr, hb2⟩
  have hz2 : w.heap.size + 1 < w2.heap.size := by have := hb2.size; simp at this; omega
  obtain ⟨hcc, hff⟩ := bcell hb2
  have k1 : w2.cell? ⟨w.heap.size + 1, 0, none⟩ = some (.slice none 0 0) := by rw [hcc _ _ (by simp)]; simp [go_sem]
  have k2 : w2.frozen? ⟨w.heap.size + 1, 0, none⟩ = false := by rw [hff _ _ (by simp)]; simp [go_sem]
  have HB2 := Lib.hid (And.intro hb2 hr)
  clear hcc hff hb2 hr
  go_wp2_with fail
  refine leaves_cons (f := 74) (args := #[.pointer (some ⟨w.heap.size, 0, none⟩), .pointer (some ⟨w.heap.size + 1, 0, none⟩)]) (by simp) (by simp [go_sem]) ?_
  refine (catchTs_idle ⟨w.heap.size, 0, none⟩ ⟨w.heap.size + 1, 0, none⟩ _).mono ?_
  rintro e u' w'' ⟨rfl, rfl, hw⟩
  subst hw
  simp [Leaves, settle, results, Try.results44, go_sem, k1]
  exact ⟨a, n, c, rfl, HR.out _ _ _ HB2.out.2, (HB.out.trans (HB2.out.1.mono (by simp; omega))).setCell (by simp) _⟩
set_option maxRecDepth 100000 in
theorem askTs_thrown (w : World) (K : Nat) (cap : Array Value)
    (hK : ∀ w : World, (callFunc K cap).run Try.prog w = .ok (.enter K cap) w) (hbe : ∀ w1, Below w.heap.size w w1 → Calls Try.prog K cap w1 fun e w2 => ThrownT e ∧ Below w1.heap.size w1 w2) :
    Calls Try.prog 44 #[.slice none 0 0, .func (Fn.func K) #[] cap] w fun e w' => e = .returned (.slice none 0 0) ∧ Below w.heap.size w w' := by
  have hmf : ∀ (fn : Fn) (first cap : Array Value) (w : World), (Instr.makeFunc fn first cap).run Try.prog w = .ok (.func fn first cap) w := fun _ _ _ _ => rfl
  have hb : Below w.heap.size w ((w.alloc (.cells #[.slice none 0 0] 34)).alloc (.cells #[.slice none 0 0] 34)) := ((Below.refl _ _).alloc (Nat.le_refl _) _).alloc (by simp) _
  have hc2 := hbe _ hb
  have HC := Lib.hid hc2
  have HB := Lib.hid hb
  clear hb hc2 hbe
  go_enter_defers Try.func44, Try.ntmps44
  go_wp2_with fail
  refine HC.out.mono ?_
  rintro e w2 ⟨⟨v, rfl⟩, hb2⟩
  have hz2 : w.heap.size + 1 < w2.heap.size := by have := hb2.size; simp at this; omega
  obtain ⟨hcc, hff⟩ := bcell hb2
  have k0 : w2.cell? ⟨w.heap.size, 0, none⟩ = some (.slice none 0 0) := by rw [hcc _ _ (by simp; omega)]; simp [go_sem]
  have k1 : w2.cell? ⟨w.heap.size + 1, 0, none⟩ = some (.slice none 0 0) := by rw [hcc _ _ (by simp)]; simp [go_sem]
  have k2 : w2.frozen? ⟨w.heap.size + 1, 0, none⟩ = false := by rw [hff _ _ (by simp)]; simp [go_sem]
  have HB2 := Lib.hid hb2
  clear hcc hff hb2
  go_wp2_with fail
  refine leaves_cons (f := 74) (args := #[.pointer (some ⟨w.heap.size, 0, none⟩), .pointer (some ⟨w.heap.size + 1, 0, none⟩)]) (by simp) (by simp [go_sem]) ?_
  refine (catchTs_panicking ⟨w.heap.size, 0, none⟩ ⟨w.heap.size + 1, 0, none⟩ (.slice none 0 0) (.slice none 0 0) 85 _ [] _ none 0 0 rfl k0 k1 k2).mono ?_
  rintro e u' w'' ⟨rfl, rfl, hw⟩
  subst hw
  simp [Leaves, settle, results, Try.results44, go_sem, k1]
  exact ((HB.out.trans (HB2.out.mono (by simp; omega))).setCell (by simp) _)

theorem catchNs_panicking (p q : Addr) (x y : Value) (u : TypeId) (pv : Value) (older : List PanicEntry) (w : World) (a1 : Option Addr) (n1 c1 : Nat) (hx : x = .slice a1 n1 c1) (hp : w.cell? p = some x) (hc : w.cell? q = some y) (hz : w.frozen? q = false) :
    CallsD Try.prog 75 #[.pointer (some p), .pointer (some q)] (.panicking ({ v := .iface u pv, recovered := false } :: older)) w fun e u' w' =>
      e = .returned (.tuple #[]) ∧ u' = .panicking ({ v := .iface u pv, recovered := true } :: older) ∧ w' = w.setCell q x := by
  subst hx
  refine callsD_of_wpS Try.func75 rfl fun c₀ cs hu => ?_
  apply wpS_seq
  apply wpS_region
  simp [wpOpsS, go_sem, recoverD, hu, Try.ntmps75, Exit.thenS]
  refine wpS_cond (t := true) (by simp [Act.eval, Array.replicate]) ?_
  simp only [if_true]
  apply wpS_region
  simp [wpOpsS, go_sem, hp, hc, hz, bodyPostS, results, Try.results75]
theorem catchNs_idle (p q : Addr) (w : World) :
    CallsD Try.prog 75 #[.pointer (some p), .pointer (some q)] .returning w fun e u' w' => e = .returned (.tuple #[]) ∧ u' = .returning ∧ w' = w := by
  refine callsD_of_wpS Try.func75 rfl fun c₀ cs hu => ?_
  apply wpS_seq
  apply wpS_region
  simp [wpOpsS, go_sem, recoverD, hu, Try.ntmps75, Exit.thenS]
  refine wpS_cond (t := false) (by simp [Act.eval, Array.replicate]) ?_
  simp only [Bool.false_eq_true, if_false]
  refine wpS_of_wp (wp_skip ?_)
  cases c₀
  simp_all [bodyPostS, results, Try.results75]
set_option maxRecDepth 100000 in
theorem askNs_ok (w : World) (K : Nat) (cap : Array Value) (R : Value → World → Prop)
    (hR : ∀ v V x, R v V → R v (V.setCell ⟨w.heap.size + 1, 0, none⟩ x))
    (hK : ∀ w : World, (callFunc K cap).run Try.prog w = .ok (.enter K cap) w) (hbe : ∀ w1, Below w.heap.size w w1 → w.heap.size + 2 ≤ w1.heap.size → Calls Try.prog K cap w1 fun e w2 => ∃ a n c, e = .returned (.slice a n c) ∧ R (.slice a n c) w2 ∧ Below w1.heap.size w1 w2) :
    Calls Try.prog 47 #[.slice none 0 0, .func (Fn.func K) #[] cap] w (SliceR w R) := by
  have hmf : ∀ (fn : Fn) (first cap : Array Value) (w : World), (Instr.makeFunc fn first cap).run Try.prog w = .ok (.func fn first cap) w := fun _ _ _ _ => rfl
  have hb : Below w.heap.size w ((w.alloc (.cells #[.slice none 0 0] 22)).alloc (.cells #[.slice none 0 0] 22)) := ((Below.refl _ _).alloc (Nat.le_refl _) _).alloc (by simp) _
  have hc2 := hbe _ hb (by simp)
  have HC := Lib.hid hc2
  have HB := Lib.hid hb
  have HR := Lib.hid hR
  clear hb hc2 hbe hR
  go_enter_defers Try.func47, Try.ntmps47
  go_wp2_with fail
  refine HC.out.mono ?_
  rintro e w2 ⟨a, n, c, rfl, hr, hb2⟩
  have hz2 : w.heap.size + 1 < w2.heap.size := by have := hb2.size; simp at this; omega
  obtain ⟨hcc, hff⟩ := bcell hb2
  have k1 : w2.cell? ⟨w.heap.size + 1, 0, none⟩ = some (.slice none 0 0) := by rw [hcc _ _ (by simp)]; simp [go_sem]
  have k2 : w2.frozen? ⟨w.heap.size + 1, 0, none⟩ = false := by rw [hff _ _ (by simp)]; simp [go_sem]
  have HB2 := Lib.hid (And.intro hb2 hr)
  clear hcc hff hb2 hr
  go_wp2_with fail
  refine leaves_cons (f := 75) (args := #[.pointer (some ⟨w.heap.size, 0, none⟩), .pointer (some ⟨w.heap.size + 1, 0, none⟩)]) (by simp) (by simp [go_sem]) ?_
  refine (catchNs_idle ⟨w.heap.size, 0, none⟩ ⟨w.heap.size + 1, 0, none⟩ _).mono ?_
  rintro e u' w'' ⟨rfl, rfl, hw⟩
  subst hw
  simp [Leaves, settle, results, Try.results47, go_sem, k1]
  exact ⟨a, n, c, rfl, HR.out _ _ _ HB2.out.2, (HB.out.trans (HB2.out.1.mono (by simp; omega))).setCell (by simp) _⟩
set_option maxRecDepth 100000 in
theorem askNs_thrown (w : World) (K : Nat) (cap : Array Value)
    (hK : ∀ w : World, (callFunc K cap).run Try.prog w = .ok (.enter K cap) w) (hbe : ∀ w1, Below w.heap.size w w1 → Calls Try.prog K cap w1 fun e w2 => ThrownT e ∧ Below w1.heap.size w1 w2) :
    Calls Try.prog 47 #[.slice none 0 0, .func (Fn.func K) #[] cap] w fun e w' => e = .returned (.slice none 0 0) ∧ Below w.heap.size w w' := by
  have hmf : ∀ (fn : Fn) (first cap : Array Value) (w : World), (Instr.makeFunc fn first cap).run Try.prog w = .ok (.func fn first cap) w := fun _ _ _ _ => rfl
  have hb : Below w.heap.size w ((w.alloc (.cells #[.slice none 0 0] 22)).alloc (.cells #[.slice none 0 0] 22)) := ((Below.refl _ _).alloc (Nat.le_refl _) _).alloc (by simp) _
  have hc2 := hbe _ hb
  have HC := Lib.hid hc2
  have HB := Lib.hid hb
  clear hb hc2 hbe
  go_enter_defers Try.func47, Try.ntmps47
  go_wp2_with fail
  refine HC.out.mono ?_
  rintro e w2 ⟨⟨v, rfl⟩, hb2⟩
  have hz2 : w.heap.size + 1 < w2.heap.size := by have := hb2.size; simp at this; omega
  obtain ⟨hcc, hff⟩ := bcell hb2
  have k0 : w2.cell? ⟨w.heap.size, 0, none⟩ = some (.slice none 0 0) := by rw [hcc _ _ (by simp; omega)]; simp [go_sem]
  have k1 : w2.cell? ⟨w.heap.size + 1, 0, none⟩ = some (.slice none 0 0) := by rw [hcc _ _ (by simp)]; simp [go_sem]
  have k2 : w2.frozen? ⟨w.heap.size + 1, 0, none⟩ = false := by rw [hff _ _ (by simp)]; simp [go_sem]
  have HB2 := Lib.hid hb2
  clear hcc hff hb2
  go_wp2_with fail
  refine leaves_cons (f := 75) (args := #[.pointer (some ⟨w.heap.size, 0, none⟩), .pointer (some ⟨w.heap.size + 1, 0, none⟩)]) (by simp) (by simp [go_sem]) ?_
  refine (catchNs_panicking ⟨w.heap.size, 0, none⟩ ⟨w.heap.size + 1, 0, none⟩ (.slice none 0 0) (.slice none 0 0) 85 _ [] _ none 0 0 rfl k0 k1 k2).mono ?_
  rintro e u' w'' ⟨rfl, rfl, hw⟩
  subst hw
  simp [Leaves, settle, results, Try.results47, go_sem, k1]
  exact ((HB.out.trans (HB2.out.mono (by simp; omega))).setCell (by simp) _)
end Go.Proofs.Ytieoiklgoeclaaa
