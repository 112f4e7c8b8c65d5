/-
  Whether a term is in order (37), how deep it is (16).
-/
import Derived.Test.YtieoiklgoeclaaaGreatTk
namespace Go.Proofs.YtieoiklgoeclaaaGreat
open Go.RowKit

/-- How nodes lie, if they are one term. -/
def layOf (ks : Nat → Int) (n : Nat) : Option ((Nat → Nat) × (Nat → Nat)) := match layN ks n n with
  | none => none
  | some (E, D) => if 0 < n ∧ E 0 = n then some (E, D) else none
def inOrd (ks : Nat → Int) (n : Nat) : Bool := (layOf ks n).isSome
def deepOf (ks : Nat → Int) (n : Nat) : Nat := match layOf ks n with
  | none => 0
  | some (_, D) => D 0
theorem layOf_some {ks : Nat → Int} {n : Nat} {E D : Nat → Nat} (h : layOf ks n = some (E, D)) : Laid ks n E D := by
  unfold layOf at h
  cases hl : layN ks n n with
  | none => rw [hl] at h; cases h
  | some x =>
    obtain ⟨E0, D0⟩ := x
    rw [hl] at h
    simp only at h
    split at h
    · rename_i hc
      cases h
      exact ⟨hc.1, hl, hc.2⟩
    · cases h
theorem layOf_none {ks : Nat → Int} {n : Nat} (h : layOf ks n = none) : layN ks n n = none ∨ ∃ E D, layN ks n n = some (E, D) ∧ (n = 0 ∨ E 0 ≠ n) := by
  unfold layOf at h
  cases hl : layN ks n n with
  | none => exact .inl rfl
  | some x =>
    obtain ⟨E0, D0⟩ := x
    rw [hl] at h
    simp only at h
    split at h
    · cases h
    · rename_i hc
      refine .inr ⟨E0, D0, rfl, ?_⟩
      by_cases h0 : n = 0
      · exact .inl h0
      · exact .inr fun e => hc ⟨by omega, e⟩
theorem clo67_ok (w : World) (p : Nat) (a : Option Addr) (n nc : Nat) (ks : Nat → Int) (E D : Nat → Nat) (hn : n ≤ 1000000) (hp : w.cell? ⟨p, 0, none⟩ = some (.slice a n nc)) (hk : KsAt w a n ks) (hl : Laid ks n E D) :
    Calls Tryz.prog 36 #[.pointer (some ⟨p, 0, none⟩)] w fun e w' => e = .returned (.bool true) ∧ Below w.heap.size w w' := by
  have h := laid_ok a n nc ks E D w hn hk hl
  have H := Lib.hid h
  clear h hk hl hn
  go_enter Tryz.func36, Tryz.ntmps36
  go_wp2_with fail
  refine H.out.mono ?_
  rintro e w2 ⟨gE, gD, rfl, b1, b2, z1, z2, hb⟩
  have HB := Lib.hid hb
  clear b1 b2 z1 z2 hb
  go_wp2_with fail
  go_ret
  exact ⟨rfl, HB.out⟩
theorem clo67_bad (w : World) (p : Nat) (a : Option Addr) (n nc : Nat) (ks : Nat → Int) (hn : n ≤ 1000000) (hp : w.cell? ⟨p, 0, none⟩ = some (.slice a n nc)) (hk : KsAt w a n ks) (hl : layOf ks n = none) :
    Calls Tryz.prog 36 #[.pointer (some ⟨p, 0, none⟩)] w fun e w' => ThrownT e ∧ Below w.heap.size w w' := by
  have h := laid_bad a n nc ks w hn hk (layOf_none hl)
  have H := Lib.hid h
  clear h hk hl hn
  go_enter Tryz.func36, Tryz.ntmps36
  go_wp2_with fail
  refine H.out.mono ?_
  rintro e w2 ⟨⟨v, rfl⟩, hb⟩
  have HB := Lib.hid hb
  clear hb
  go_wp2_with fail
  exact ⟨rfl, ⟨_, rfl⟩, HB.out⟩
set_option maxRecDepth 100000 in
theorem clo41_ok (w : World) (p : Nat) (a : Option Addr) (n nc : Nat) (ks : Nat → Int) (E D : Nat → Nat) (hn : n ≤ 1000000) (hp : w.cell? ⟨p, 0, none⟩ = some (.slice a n nc)) (hk : KsAt w a n ks) (hl : Laid ks n E D) :
    Calls Tryz.prog 46 #[.pointer (some ⟨p, 0, none⟩)] w fun e w' => e = .returned (.int .i64 (D 0)) ∧ Below w.heap.size w w' := by
  have h := laid_ok a n nc ks E D w hn hk hl
  have H := Lib.hid (And.intro h hl.1)
  clear h hk hl hn
  go_enter Tryz.func46, Tryz.ntmps46
  go_wp2_with fail
  refine H.out.1.mono ?_
  rintro e w2 ⟨gE, gD, rfl, b1, b2, z1, z2, hb⟩
  have cD := z2.cell 0 (iv_get n D 0 H.out.2)
  have p1 : (0 : Int) < (n : Int) := by have := H.out.2; omega
  obtain ⟨d0, hd0⟩ : ∃ d, d = D 0 := ⟨_, rfl⟩
  rw [← hd0] at cD
  have HB := Lib.hid (And.intro hb hd0)
  clear b1 b2 z1 z2 hb hd0
  have hfd : ∀ W, (Instr.field 55 (.agg #[.slice a n nc, .slice (some ⟨gE, 0, none⟩) n n, .slice (some ⟨gD, 0, none⟩) n n]) 2).run Tryz.prog W = .ok (.slice (some ⟨gD, 0, none⟩) n n) W := fun _ => by kernel_rfl
  unfold layV
  go_wp2_with fail
  go_ret
  exact ⟨by rw [HB.out.2]; rfl, HB.out.1⟩
theorem clo41_bad (w : World) (p : Nat) (a : Option Addr) (n nc : Nat) (ks : Nat → Int) (hn : n ≤ 1000000) (hp : w.cell? ⟨p, 0, none⟩ = some (.slice a n nc)) (hk : KsAt w a n ks) (hl : layOf ks n = none) :
    Calls Tryz.prog 46 #[.pointer (some ⟨p, 0, none⟩)] w fun e w' => ThrownT e ∧ Below w.heap.size w w' := by
  have h := laid_bad a n nc ks w hn hk (layOf_none hl)
  have H := Lib.hid h
  clear h hk hl hn
  go_enter Tryz.func46, Tryz.ntmps46
  go_wp2_with fail
  refine H.out.mono ?_
  rintro e w2 ⟨⟨v, rfl⟩, hb⟩
  have HB := Lib.hid hb
  clear hb
  go_wp2_with fail
  exact ⟨rfl, ⟨_, rfl⟩, HB.out⟩
theorem inorder_any (w : World) (a : Option Addr) (n nc : Nat) (ks : Nat → Int) (hn : n ≤ 1000000) (hk : KsAt w a n ks) :
    Calls Tryz.prog 17 #[.agg #[.slice a n nc]] w fun e w' => e = .returned (.bool (inOrd ks n)) ∧ Below w.heap.size w w' := by
  have hmf : ∀ (fn : Fn) (first cap : Array Value) (w : World), (Instr.makeFunc fn first cap).run Tryz.prog w = .ok (.func fn first cap) w := fun _ _ _ _ => rfl
  have hb : Below w.heap.size w (w.alloc (.cells #[.slice a n nc] 27)) := (Below.refl _ _).alloc (Nat.le_refl _) _
  have hA : Lies (w.alloc (.cells #[.slice a n nc] 27)) w.heap.size #[.slice a n nc] 27 := Lies.new _ _ _
  have hask : Calls Tryz.prog 35 #[.bool false, .func (Fn.func 36) #[] #[.pointer (some ⟨w.heap.size, 0, none⟩)]] (w.alloc (.cells #[.slice a n nc] 27)) fun e w' => e = .returned (.bool (inOrd ks n)) ∧ Below (w.alloc (.cells #[.slice a n nc] 27)).heap.size (w.alloc (.cells #[.slice a n nc] 27)) w' := by
    cases hl : layOf ks n with
    | none =>
      have e1 : inOrd ks n = false := by unfold inOrd; rw [hl]; rfl
      rw [e1]
      exact askB_thrown _ false 36 _ (fun w => callK 36 Tryz.f36 Tryz.func36 (by kernel_rfl) (by kernel_rfl) _ w) fun w1 h1 =>
        clo67_bad w1 w.heap.size a n nc ks hn ((hA.below h1 hA.lt).cell 0 rfl) ((hk.below hb (Nat.le_refl _)).below h1 (Nat.le_refl _)) hl
    | some x =>
      obtain ⟨E, D⟩ := x
      have e1 : inOrd ks n = true := by unfold inOrd; rw [hl]; rfl
      rw [e1]
      exact askB_ok _ false true 36 _ (fun w => callK 36 Tryz.f36 Tryz.func36 (by kernel_rfl) (by kernel_rfl) _ w) fun w1 h1 =>
        clo67_ok w1 w.heap.size a n nc ks E D hn ((hA.below h1 hA.lt).cell 0 rfl) ((hk.below hb (Nat.le_refl _)).below h1 (Nat.le_refl _)) (layOf_some hl)
  have H := Lib.hid (And.intro hask hb)
  clear hask hb hA hk hn
  go_enter Tryz.func17, Tryz.ntmps17
  go_wp2_with fail
  refine H.out.1.mono ?_
  rintro e w2 ⟨rfl, hb2⟩
  have HB := Lib.hid (H.out.2.trans (hb2.mono H.out.2.size))
  clear hb2
  go_wp2_with fail
  go_ret
  exact ⟨rfl, HB.out⟩
theorem deep_any (w : World) (a : Option Addr) (n nc : Nat) (ks : Nat → Int) (hn : n ≤ 1000000) (hk : KsAt w a n ks) :
    Calls Tryz.prog 23 #[.agg #[.slice a n nc]] w fun e w' => e = .returned (.int .i64 (deepOf ks n)) ∧ Below w.heap.size w w' := by
  have hmf : ∀ (fn : Fn) (first cap : Array Value) (w : World), (Instr.makeFunc fn first cap).run Tryz.prog w = .ok (.func fn first cap) w := fun _ _ _ _ => rfl
  have hb : Below w.heap.size w (w.alloc (.cells #[.slice a n nc] 27)) := (Below.refl _ _).alloc (Nat.le_refl _) _
  have hA : Lies (w.alloc (.cells #[.slice a n nc] 27)) w.heap.size #[.slice a n nc] 27 := Lies.new _ _ _
  have hask : Calls Tryz.prog 45 #[.int .i64 0, .func (Fn.func 46) #[] #[.pointer (some ⟨w.heap.size, 0, none⟩)]] (w.alloc (.cells #[.slice a n nc] 27)) fun e w' => e = .returned (.int .i64 (deepOf ks n)) ∧ Below (w.alloc (.cells #[.slice a n nc] 27)).heap.size (w.alloc (.cells #[.slice a n nc] 27)) w' := by
    cases hl : layOf ks n with
    | none =>
      have e1 : deepOf ks n = 0 := by unfold deepOf; rw [hl]
      rw [e1]
      exact askN_thrown _ 0 46 _ (fun w => callK 46 Tryz.f46 Tryz.func46 (by kernel_rfl) (by kernel_rfl) _ w) fun w1 h1 =>
        clo41_bad w1 w.heap.size a n nc ks hn ((hA.below h1 hA.lt).cell 0 rfl) ((hk.below hb (Nat.le_refl _)).below h1 (Nat.le_refl _)) hl
    | some x =>
      obtain ⟨E, D⟩ := x
      have e1 : deepOf ks n = D 0 := by unfold deepOf; rw [hl]
      rw [e1]
      exact askN_ok _ 0 (D 0) 46 _ (fun w => callK 46 Tryz.f46 Tryz.func46 (by kernel_rfl) (by kernel_rfl) _ w) fun w1 h1 =>
        clo41_ok w1 w.heap.size a n nc ks E D hn ((hA.below h1 hA.lt).cell 0 rfl) ((hk.below hb (Nat.le_refl _)).below h1 (Nat.le_refl _)) (layOf_some hl)
  have H := Lib.hid (And.intro hask hb)
  clear hask hb hA hk hn
  go_enter Tryz.func23, Tryz.ntmps23
  go_wp2_with fail
  refine H.out.1.mono ?_
  rintro e w2 ⟨rfl, hb2⟩
  have HB := Lib.hid (H.out.2.trans (hb2.mono H.out.2.size))
  clear hb2
  go_wp2_with fail
  go_ret
  exact ⟨rfl, HB.out⟩
end Go.Proofs.YtieoiklgoeclaaaGreat
