/-
  ask: what is told, or nothing where something is thrown.
-/
import Derived.Test.YtjngghihciimjaaVto
namespace Go.Proofs.Ytjngghihciimjaa
set_option maxRecDepth 100000
open Go.RowKit Go.Sort Go.Maps

theorem Row.small {w : World} {pa : Option Addr} {l : List As} (h : Row w pa l) {b : Nat} {cs : Array Value} {t : TypeId} (hl : Lies w b cs t) (hlt : cs.size ≤ 33) (j : Nat) (v : Value) : Row (w.setCell ⟨b, j, none⟩ v) pa l :=
  ⟨h.1, h.2.1, fun h0 => by
    obtain ⟨g, off, e, hg, hh⟩ := h.2.2 h0
    have hne : g ≠ b := fun e2 => by
      subst e2
      have ha : l[0]? = some l[0] := List.getElem?_eq_getElem h0
      have hc := hh 0 l[0] ha 33 _ (by rw [Array.getElem?_toList]; exact asC_amt _ (h.2.1 _ (List.getElem_mem h0)).1)
      rw [cell_of_row w g _ cs t (0, 0) hl, Array.getElem?_eq_none (by omega)] at hc
      cases hc
    exact ⟨g, off, e, by rw [size_set]; exact hg, fun i a hi k x hk => (World.cell?_of_block (heap_setCell_other w _ g v hne)).trans (hh i a hi k x hk)⟩⟩
theorem catch_panicking (p q : Nat) (u : TypeId) (pv : Value) (older : List PanicEntry) (w : World) (x0 x1 x2 : Value) (h0 : w.cell? ⟨p, 0, none⟩ = some x0) (h1 : w.cell? ⟨p, 1, none⟩ = some x1) (h2 : w.cell? ⟨q, 0, none⟩ = some x2)
    (f0 : w.frozen? ⟨p, 0, none⟩ = false) (f1 : w.frozen? ⟨p, 1, none⟩ = false) (f2 : w.frozen? ⟨q, 0, none⟩ = false) (hne : p ≠ q) :
    CallsD Try.prog 41 #[.pointer (some ⟨p, 0, none⟩), .pointer (some ⟨q, 0, none⟩)] (.panicking ({ v := .iface u pv, recovered := false } :: older)) w fun e u' w' =>
      e = .returned (.tuple #[]) ∧ u' = .panicking ({ v := .iface u pv, recovered := true } :: older) ∧ w' = ((w.setCell ⟨p, 0, none⟩ (.int .i64 0)).setCell ⟨p, 1, none⟩ (.slice none 0 0)).setCell ⟨q, 0, none⟩ (.bool false) := by
  have hne' : ¬ q = p := fun e => hne e.symm
  refine callsD_of_wpS Try.func41 rfl fun c₀ cs hu => ?_
  apply wpS_seq
  apply wpS_region
  simp [wpOpsS, go_sem, recoverD, hu, Try.ntmps41, Exit.thenS]
  refine wpS_cond (t := true) (by simp [Act.eval, Array.replicate]) ?_
  simp only [if_true]
  apply wpS_region
  simp [wpOpsS, go_sem, h0, h1, h2, f0, f1, f2, hne, hne', bodyPostS, results, Try.results41]
theorem catch_idle (p q : Addr) (w : World) :
    CallsD Try.prog 41 #[.pointer (some p), .pointer (some q)] .returning w fun e u' w' => e = .returned (.tuple #[]) ∧ u' = .returning ∧ w' = w := by
  refine callsD_of_wpS Try.func41 rfl fun c₀ cs hu => ?_
  apply wpS_seq
  apply wpS_region
  simp [wpOpsS, go_sem, recoverD, hu, Try.ntmps41, Exit.thenS]
  refine wpS_cond (t := false) (by simp [Act.eval, Array.replicate]) ?_
  simp only [Bool.false_eq_true, if_false]
  refine wpS_of_wp (wp_skip ?_)
  cases c₀
  simp_all [bodyPostS, results, Try.results41]
/-- A bundle is told, and whether there is one. -/
def Told (ok : Bool) (coin : Int) (l : List As) (e : Ending) (w' : World) : Prop := ∃ pa c, e = .returned (.tuple #[.agg (vC coin pa l.length c), .bool ok]) ∧ Row w' pa l
/-- What a function tells that may throw. -/
def Tells (Z : Int → List As → Prop) (N : Prop) (e : Ending) (w' : World) : Prop := (∃ coin l pa c, e = .returned (.agg (vC coin pa l.length c)) ∧ Row w' pa l ∧ Z coin l) ∨ (Fault e ∧ N)
def Asked (Z : Int → List As → Prop) (N : Prop) (e : Ending) (w' : World) : Prop := (∃ coin l, Z coin l ∧ Told true coin l e w') ∨ (N ∧ Told false 0 [] e w')
theorem row_nil (w : World) : Row w none [] := ⟨Nat.zero_le _, fun a ha => by simp at ha, fun h => absurd h (by simp)⟩
set_option maxHeartbeats 4000000 in
theorem ask_any (w : World) (K : Nat) (cap : Array Value) (Z : Int → List As → Prop) (N : Prop)
    (hK : ∀ w : World, (callFunc K cap).run Try.prog w = .ok (.enter K cap) w) (hbe : ∀ w1, Below w.heap.size w w1 → Calls Try.prog K cap w1 fun e w2 => Tells Z N e w2 ∧ Below w1.heap.size w1 w2) :
    Calls Try.prog 22 #[.func (Fn.func K) #[] cap] w fun e w' => Asked Z N e w' ∧ Below w.heap.size w w' := by
  have hmf : ∀ (fn : Fn) (first cap : Array Value) (w : World), (Instr.makeFunc fn first cap).run Try.prog w = .ok (.func fn first cap) w := fun _ _ _ _ => rfl
  have hb : Below w.heap.size w ((w.alloc (.cells #[.int .i64 0, .slice none 0 0] 24)).alloc (.cells #[.bool false] 4)) := ((Below.refl _ _).alloc (Nat.le_refl _) _).alloc (by simp) _
  have hl0 : Lies ((w.alloc (.cells #[.int .i64 0, .slice none 0 0] 24)).alloc (.cells #[.bool false] 4)) w.heap.size #[.int .i64 0, .slice none 0 0] 24 := (Lies.new _ _ _).alloc _
  have hl1 : Lies ((w.alloc (.cells #[.int .i64 0, .slice none 0 0] 24)).alloc (.cells #[.bool false] 4)) (w.heap.size + 1) #[.bool false] 4 := by
    have := Lies.new (w.alloc (.cells #[.int .i64 0, .slice none 0 0] 24)) #[.bool false] 4
    simpa using this
  have hc2 := hbe _ hb
  have HC := Lib.hid hc2
  have HB := Lib.hid (And.intro hb (And.intro hl0 hl1))
  clear hb hc2 hbe hl0 hl1
  go_enter_defers Try.func22, Try.ntmps22
  go_wp2_with fail
  refine HC.out.mono ?_
  rintro e w2 ⟨ht, hb2⟩
  have hL0 := HB.out.2.1.below hb2 HB.out.2.1.lt
  have hL1 := HB.out.2.2.below hb2 HB.out.2.2.lt
  have hbw := HB.out.1.trans (hb2.mono HB.out.1.size)
  generalize (w.alloc (.cells #[.int .i64 0, .slice none 0 0] 24)).alloc (.cells #[.bool false] 4) = W0 at hb2 HB ⊢
  have k0 := hL0.cell 0 (v := .int .i64 0) rfl
  have k1 := hL0.cell 1 (v := .slice none 0 0) rfl
  have k2 := hL1.cell 0 (v := .bool false) rfl
  have f0 := hL0.free 0
  have f1 := hL0.free 1
  have f2 := hL1.free 0
  rcases ht with ⟨coin, l, pa, c, rfl, hrow, hz⟩ | ⟨⟨n, rfl⟩, hN⟩
  · have H2 := Lib.hid (And.intro hL0 (And.intro hL1 (And.intro hbw (And.intro hrow hz))))
    clear hL0 hL1 hbw hrow hz hb2
    unfold vC
    go_wp2_with fail
    have hL0 := H2.out.1
    have hL1 := H2.out.2.1
    have hL0a := hL0.set 0 (.int .i64 coin)
    have hL0b := hL0a.set 1 (.slice pa l.length c)
    have hL1b : Lies ((w2.setCell ⟨w.heap.size, 0, none⟩ (.int .i64 coin)).setCell ⟨w.heap.size, 1, none⟩ (.slice pa l.length c)) (w.heap.size + 1) #[.bool false] 4 := (hL1.other _ _ (by simp)).other _ _ (by simp)
    have hr1 := ((H2.out.2.2.2.1.small hL0 (by decide) 0 (.int .i64 coin)).small hL0a (by simp) 1 (.slice pa l.length c)).small hL1b (by decide) 0 (.bool true)
    have hL0c := hL0b.other ⟨w.heap.size + 1, 0, none⟩ (.bool true) (by simp)
    have hL1c := hL1b.set 0 (.bool true)
    have hbf := below_setCell (below_setCell (below_setCell H2.out.2.2.1 ⟨w.heap.size, 0, none⟩ (.int .i64 coin) (Nat.le_refl _)) ⟨w.heap.size, 1, none⟩ (.slice pa l.length c) (Nat.le_refl _)) ⟨w.heap.size + 1, 0, none⟩ (.bool true) (by simp)
    generalize ((w2.setCell ⟨w.heap.size, 0, none⟩ (.int .i64 coin)).setCell ⟨w.heap.size, 1, none⟩ (.slice pa l.length c)).setCell ⟨w.heap.size + 1, 0, none⟩ (.bool true) = w3 at hr1 hL0c hL1c hbf ⊢
    have n0 := hL0c.cell 0 (v := .int .i64 coin) rfl
    have n1 := hL0c.cell 1 (v := .slice pa l.length c) rfl
    have n2 := hL1c.cell 0 (v := .bool true) rfl
    refine leaves_cons (f := 41) (args := #[.pointer (some ⟨w.heap.size, 0, none⟩), .pointer (some ⟨w.heap.size + 1, 0, none⟩)]) (by simp) (by simp [go_sem]) ?_
    refine (catch_idle ⟨w.heap.size, 0, none⟩ ⟨w.heap.size + 1, 0, none⟩ _).mono ?_
    rintro e u' w'' ⟨rfl, rfl, hw⟩
    subst hw
    have HZ := Lib.hid (And.intro hr1 hbf)
    clear hr1 hbf hL0 hL1 hL0a hL0b hL1b hL0c hL1c k0 k1 k2 f0 f1 f2
    simp [Leaves, settle, results, Try.results22, go_sem, n0, n1, n2]
    exact ⟨.inl ⟨coin, l, H2.out.2.2.2.2, pa, c, rfl, HZ.out.1⟩, HZ.out.2⟩
  · have H2 := Lib.hid (And.intro hL0 (And.intro hL1 (And.intro hbw hN)))
    clear hL0 hL1 hbw hN hb2
    go_wp2_with fail
    have hL0 := H2.out.1
    have hL1 := H2.out.2.1
    have hL0a := hL0.set 0 (.int .i64 0)
    have hL0b := hL0a.set 1 (.slice none 0 0)
    have hL1b : Lies ((w2.setCell ⟨w.heap.size, 0, none⟩ (.int .i64 0)).setCell ⟨w.heap.size, 1, none⟩ (.slice none 0 0)) (w.heap.size + 1) #[.bool false] 4 := (hL1.other _ _ (by simp)).other _ _ (by simp)
    have hL0c := hL0b.other ⟨w.heap.size + 1, 0, none⟩ (.bool false) (by simp)
    have hL1c := hL1b.set 0 (.bool false)
    have hbf := below_setCell (below_setCell (below_setCell H2.out.2.2.1 ⟨w.heap.size, 0, none⟩ (.int .i64 0) (Nat.le_refl _)) ⟨w.heap.size, 1, none⟩ (.slice none 0 0) (Nat.le_refl _)) ⟨w.heap.size + 1, 0, none⟩ (.bool false) (by simp)
    refine leaves_cons (f := 41) (args := #[.pointer (some ⟨w.heap.size, 0, none⟩), .pointer (some ⟨w.heap.size + 1, 0, none⟩)]) (by simp) (by simp [go_sem]) ?_
    refine (catch_panicking w.heap.size (w.heap.size + 1) 80 _ [] _ _ _ _ k0 k1 k2 f0 f1 f2 (by simp)).mono ?_
    rintro e u' w'' ⟨rfl, rfl, hw⟩
    rw [hw]
    clear hw
    generalize ((w2.setCell ⟨w.heap.size, 0, none⟩ (.int .i64 0)).setCell ⟨w.heap.size, 1, none⟩ (.slice none 0 0)).setCell ⟨w.heap.size + 1, 0, none⟩ (.bool false) = w3 at hL0c hL1c hbf ⊢
    have n0 := hL0c.cell 0 (v := .int .i64 0) rfl
    have n1 := hL0c.cell 1 (v := .slice none 0 0) rfl
    have n2 := hL1c.cell 0 (v := .bool false) rfl
    have HZ := Lib.hid hbf
    clear hbf hL0 hL1 hL0a hL0b hL1b hL0c hL1c k0 k1 k2 f0 f1 f2
    simp [Leaves, settle, results, Try.results22, go_sem, n0, n1, n2]
    exact ⟨.inr ⟨H2.out.2.2.2, none, 0, rfl, row_nil _⟩, HZ.out⟩
end Go.Proofs.Ytjngghihciimjaa
