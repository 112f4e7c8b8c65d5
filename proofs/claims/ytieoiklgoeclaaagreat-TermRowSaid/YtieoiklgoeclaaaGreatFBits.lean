/-
  bitsOf: the bits of what numbers become; the one NaN, if any of all these is one.
-/
import Derived.Test.YtieoiklgoeclaaaGreatFAsk
namespace Go.Proofs.YtieoiklgoeclaaaGreat
open Go.RowKit

theorem nums_one (w : World) (r : Nat) : Nums (w.alloc (.cells #[.float .f64 r] 84)) w.heap.size [r] := by
  intro j hj
  obtain rfl : j = 0 := by simp at hj; omega
  simp [go_sem]
theorem nums_two (w : World) (r s : Nat) : Nums (w.alloc (.cells #[.float .f64 r, .float .f64 s] 84)) w.heap.size [r, s] := by
  intro j hj
  have : j = 0 ∨ j = 1 := by simp at hj; omega
  rcases this with rfl | rfl <;> simp [go_sem]
theorem one_ok {r : Nat} (h : noneB r = false) : ∀ j, j < [r].length → noneB ([r].getD j 0) = false := by
  intro j hj
  obtain rfl : j = 0 := by simp at hj; omega
  exact h
theorem two_ok {r s : Nat} (h : noneB r = false) (h' : noneB s = false) : ∀ j, j < [r, s].length → noneB ([r, s].getD j 0) = false := by
  intro j hj
  have : j = 0 ∨ j = 1 := by simp at hj; omega
  rcases this with rfl | rfl
  · exact h
  · exact h'
/-- A closure's call that tells a number, and makes but new memory. -/
def Tells (k : Nat) (cap : Array Value) (w : World) (r : Nat) : Prop :=
  ∀ w1, Below w.heap.size w w1 → Calls Tryz.prog k cap w1 fun e w2 => e = .returned (.float .f64 r) ∧ Below w1.heap.size w1 w2
/-- .. that tells a NaN. -/
def TellsNan (k : Nat) (cap : Array Value) (w : World) : Prop :=
  ∀ w1, Below w.heap.size w w1 → Calls Tryz.prog k cap w1 fun e w2 => ∃ r, noneB r = true ∧ e = .returned (.float .f64 r) ∧ Below w1.heap.size w1 w2

set_option maxRecDepth 100000 in
theorem inner_some (w : World) (p k : Nat) (cap : Array Value) (r : Nat) (hp : w.cell? ⟨p, 0, none⟩ = some (.func (Fn.func k) #[] cap)) (hK : ∀ w : World, (callFunc k cap).run Tryz.prog w = .ok (.enter k cap) w)
    (ht : Tells k cap w r) (hr : noneB r = false) :
    Calls Tryz.prog 102 #[.pointer (some ⟨p, 0, none⟩)] w fun e w' => e = .returned (.int .u64 r) ∧ Below w.heap.size w w' := by
  have hc := ht w (Below.refl _ _)
  have HC := Lib.hid hc
  have HR := Lib.hid hr
  have hbits := fun w => bits_run r w
  clear hc hr ht
  go_enter Tryz.func102, Tryz.ntmps102
  go_wp2_with fail
  refine HC.out.mono ?_
  rintro e w2 ⟨rfl, hb⟩
  have HB := Lib.hid hb
  clear hb
  go_wp2_with fail
  refine (sound_ok [r] w2.heap.size 1 _ (nums_one w2 r) (by simp) (one_ok HR.out)).mono ?_
  rintro e w3 ⟨rfl, rfl⟩
  go_wp2_with fail
  go_ret
  exact ⟨rfl, HB.out.alloc HB.out.size _⟩
set_option maxRecDepth 100000 in
theorem inner_none (w : World) (p k : Nat) (cap : Array Value) (hp : w.cell? ⟨p, 0, none⟩ = some (.func (Fn.func k) #[] cap)) (hK : ∀ w : World, (callFunc k cap).run Tryz.prog w = .ok (.enter k cap) w)
    (ht : TellsNan k cap w) :
    Calls Tryz.prog 102 #[.pointer (some ⟨p, 0, none⟩)] w fun e w' => Thrown e ∧ Below w.heap.size w w' := by
  have hc := ht w (Below.refl _ _)
  have HC := Lib.hid hc
  clear hc ht
  go_enter Tryz.func102, Tryz.ntmps102
  go_wp2_with fail
  refine HC.out.mono ?_
  rintro e w2 ⟨r, hr, rfl, hb⟩
  have HB := Lib.hid hb
  have HR := Lib.hid hr
  clear hb hr
  go_wp2_with fail
  refine (sound_bad [r] w2.heap.size 1 _ (nums_one w2 r) (by simp) 0 (by simp) HR.out).mono ?_
  rintro e w3 ⟨⟨v, rfl⟩, rfl⟩
  go_wp2_with fail
  exact ⟨rfl, ⟨_, rfl⟩, HB.out.alloc HB.out.size _⟩

theorem callK (K : Nat) (fn : Func) (hf : Tryz.prog.funcs[K]? = some fn) (hb : fn.body.isSome = true) (hn : (fn.name == "runtime.NumGoroutine") = false) (cap : Array Value) (w : World) : (callFunc K cap).run Tryz.prog w = .ok (.enter K cap) w := by
  have h1 : fn.name ≠ "runtime.NumGoroutine" := by simpa using hn
  have h2 : fn.body ≠ none := by
    intro e
    rw [e] at hb
    cases hb
  have h3 : fn.body.isNone = false := by
    cases h : fn.body with
    | none => exact absurd h h2
    | some c => rfl
  simp [callFunc, hf, h1, h2]

theorem Tells.below {k : Nat} {cap : Array Value} {w w' : World} {r : Nat} (h : Tells k cap w r) (hb : Below w.heap.size w w') : Tells k cap w' r :=
  fun w1 h1 => h w1 (hb.trans (h1.mono hb.size))
theorem TellsNan.below {k : Nat} {cap : Array Value} {w w' : World} (h : TellsNan k cap w) (hb : Below w.heap.size w w') : TellsNan k cap w' :=
  fun w1 h1 => h w1 (hb.trans (h1.mono hb.size))
theorem call78 (cap : Array Value) (w : World) : (callFunc 102 cap).run Tryz.prog w = .ok (.enter 102 cap) w :=
  callK 102 Tryz.f102 Tryz.func102 (by kernel_rfl) (by kernel_rfl) cap w
theorem boxed {w w1 : World} {v : Value} {t : TypeId} (_h1 : v.oneCell' = true) (hb : Below (w.heap.size + 1) (w.alloc (.cells #[v] t)) w1) : w1.cell? ⟨w.heap.size, 0, none⟩ = some v := by
  rw [hb.cell (p := ⟨w.heap.size, 0, none⟩) (by simp)]
  simp [go_sem]

set_option maxRecDepth 100000 in
theorem bits_some (w : World) (k : Nat) (cap : Array Value) (r : Nat) (xs : List Nat) (g c : Nat) (hn : Nums w g xs) (hg : g < w.heap.size) (hl : xs.length ≤ 100) (h : ∀ j, j < xs.length → noneB (xs.getD j 0) = false)
    (hK : ∀ w : World, (callFunc k cap).run Tryz.prog w = .ok (.enter k cap) w) (ht : Tells k cap w r) (hr : noneB r = false) :
    Calls Tryz.prog 99 #[.func (Fn.func k) #[] cap, .slice (some ⟨g, 0, none⟩) xs.length c] w fun e w' => e = .returned (.int .u64 r) ∧ Below w.heap.size w w' := by
  have hmf : ∀ (fn : Fn) (first cap : Array Value) (w : World), (Instr.makeFunc fn first cap).run Tryz.prog w = .ok (.func fn first cap) w := fun _ _ _ _ => rfl
  have hb : Below w.heap.size w (w.alloc (.cells #[.func (Fn.func k) #[] cap] 97)) := (Below.refl _ _).alloc (Nat.le_refl _) _
  have hs := ask64_ok (w.alloc (.cells #[.func (Fn.func k) #[] cap] 97)) 9221120237041090560 r 102 #[.pointer (some ⟨w.heap.size, 0, none⟩)] xs g c (hn.below hg hb) (by simp; omega) hl h (call78 _)
    (fun w1 hb1 => inner_some w1 w.heap.size k cap r (boxed rfl (by simpa using hb1)) hK ((ht.below hb).below hb1) hr)
  have HS := Lib.hid hs
  have HB := Lib.hid hb
  clear hs hb hn h hK ht hr
  go_enter Tryz.func99, Tryz.ntmps99
  go_wp2_with fail
  refine HS.out.mono ?_
  rintro e w2 ⟨rfl, hb2⟩
  have HB2 := Lib.hid hb2
  clear hb2
  go_wp2_with fail
  go_ret
  exact ⟨rfl, HB.out.trans (HB2.out.mono (by simp))⟩
set_option maxRecDepth 100000 in
theorem bits_none (w : World) (k : Nat) (cap : Array Value) (xs : List Nat) (g c : Nat) (hn : Nums w g xs) (hg : g < w.heap.size) (hl : xs.length ≤ 100) (h : ∀ j, j < xs.length → noneB (xs.getD j 0) = false)
    (hK : ∀ w : World, (callFunc k cap).run Tryz.prog w = .ok (.enter k cap) w) (ht : TellsNan k cap w) :
    Calls Tryz.prog 99 #[.func (Fn.func k) #[] cap, .slice (some ⟨g, 0, none⟩) xs.length c] w fun e w' => e = .returned (.int .u64 NAN) ∧ Below w.heap.size w w' := by
  have hmf : ∀ (fn : Fn) (first cap : Array Value) (w : World), (Instr.makeFunc fn first cap).run Tryz.prog w = .ok (.func fn first cap) w := fun _ _ _ _ => rfl
  have hb : Below w.heap.size w (w.alloc (.cells #[.func (Fn.func k) #[] cap] 97)) := (Below.refl _ _).alloc (Nat.le_refl _) _
  have hs := ask64_thrown (w.alloc (.cells #[.func (Fn.func k) #[] cap] 97)) 9221120237041090560 102 #[.pointer (some ⟨w.heap.size, 0, none⟩)] xs g c (hn.below hg hb) (by simp; omega) hl h (call78 _)
    (fun w1 hb1 => inner_none w1 w.heap.size k cap (boxed rfl (by simpa using hb1)) hK ((ht.below hb).below hb1))
  have HS := Lib.hid hs
  have HB := Lib.hid hb
  clear hs hb hn h hK ht
  go_enter Tryz.func99, Tryz.ntmps99
  go_wp2_with fail
  refine HS.out.mono ?_
  rintro e w2 ⟨rfl, hb2⟩
  have HB2 := Lib.hid hb2
  clear hb2
  go_wp2_with fail
  go_ret
  exact ⟨rfl, HB.out.trans (HB2.out.mono (by simp))⟩
set_option maxRecDepth 100000 in
theorem bits_bad (w : World) (k : Nat) (cap : Array Value) (xs : List Nat) (g c : Nat) (hn : Nums w g xs) (hg : g < w.heap.size) (hl : xs.length ≤ 100) (m : Nat) (hm : m < xs.length) (h : noneB (xs.getD m 0) = true) :
    Calls Tryz.prog 99 #[.func (Fn.func k) #[] cap, .slice (some ⟨g, 0, none⟩) xs.length c] w fun e w' => e = .returned (.int .u64 NAN) ∧ Below w.heap.size w w' := by
  have hmf : ∀ (fn : Fn) (first cap : Array Value) (w : World), (Instr.makeFunc fn first cap).run Tryz.prog w = .ok (.func fn first cap) w := fun _ _ _ _ => rfl
  have hb : Below w.heap.size w (w.alloc (.cells #[.func (Fn.func k) #[] cap] 97)) := (Below.refl _ _).alloc (Nat.le_refl _) _
  have hs := ask64_bad (w.alloc (.cells #[.func (Fn.func k) #[] cap] 97)) 9221120237041090560 (.func (Fn.func 102) #[] #[.pointer (some ⟨w.heap.size, 0, none⟩)]) xs g c (hn.below hg hb) (by simp; omega) hl m hm h
  have HS := Lib.hid hs
  have HB := Lib.hid hb
  clear hs hb hn h
  go_enter Tryz.func99, Tryz.ntmps99
  go_wp2_with fail
  refine HS.out.mono ?_
  rintro e w2 ⟨rfl, hb2⟩
  have HB2 := Lib.hid hb2
  clear hb2
  go_wp2_with fail
  go_ret
  exact ⟨rfl, HB.out.trans (HB2.out.mono (by simp))⟩
end Go.Proofs.YtieoiklgoeclaaaGreat
