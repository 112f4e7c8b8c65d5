/-
  Is a bundle right? None of its numbers is below what they must be, its names rise.
-/
import Derived.Test.YtjngghihciimjaaVl
namespace Go.Proofs.Ytjngghihciimjaa
set_option maxRecDepth 100000
open Go.RowKit Go.Sort

theorem enter_of {P : Program} {f : FuncId} {fn : Func} {c : Code} (hf : P.funcs[f]? = some fn) (hname : (fn.name == "runtime.NumGoroutine") = false) (hb : fn.body = some c) (args : Array Value) (w : World) :
    (callFunc f args).run P w = .ok (.enter f args) w := by
  have h1 : fn.name ≠ "runtime.NumGoroutine" := by simpa using hname
  simp [callFunc, hf, h1, hb]
theorem enterPos (args : Array Value) (w : World) : (callFunc 27 args).run Try.prog w = .ok (.enter 27 args) w :=
  enter_of Try.func27 (by kernel_rfl) rfl args w
def isPos (a : As) : Bool := decide (1 ≤ a.amt)
/-- A row of assets lies in memory, whole. -/
def Row (w : World) (pa : Option Addr) (l : List As) : Prop := l.length ≤ maxLen ∧ (∀ a, a ∈ l → AsOk a) ∧ (0 < l.length → ∃ g off, pa = some ⟨g, off, none⟩ ∧ g < w.heap.size ∧ HasA w g off l)
theorem Row.below {B : Nat} {w w' : World} {pa : Option Addr} {l : List As} (h : Row w pa l) (hb : Below B w w') (hB : w.heap.size ≤ B) : Row w' pa l :=
  ⟨h.1, h.2.1, fun hl => by
    obtain ⟨g, off, e, hg, hh⟩ := h.2.2 hl
    exact ⟨g, off, e, Nat.lt_of_lt_of_le hg hb.size, hh.below hb (Nat.lt_of_lt_of_le hg hB)⟩⟩
def vC (coin : Int) (pa : Option Addr) (n c : Nat) : Array Value := #[.int .i64 coin, .slice pa n c]
def rightB (coin : Int) (l : List As) : Bool := decide (0 ≤ coin) && decide (l.length ≤ 30) && wellB isPos l
theorem wellPos (w : World) (pa : Option Addr) (l : List As) (c : Nat) (h : Row w pa l) :
    Calls Try.prog 28 #[.slice pa l.length c, .func (.func 29) #[] #[], .func (.func 27) #[] #[]] w fun e w' => e = .returned (.bool (wellB isPos l)) ∧ Below w.heap.size w w' :=
  well_any 27 isPos enterPos (fun w a ha => isPos_any w a ha) w pa l c h.1 (fun a ha => ⟨(h.2.1 a ha).1, (h.2.1 a ha).2.1⟩) h.2.2
set_option maxHeartbeats 1000000 in
theorem right_any (w : World) (coin : Int) (pa : Option Addr) (l : List As) (c : Nat) (h : Row w pa l) :
    Calls Try.prog 9 #[.agg (vC coin pa l.length c)] w fun e w' => e = .returned (.bool (rightB coin l)) ∧ Below w.heap.size w w' := by
  have hn : (l.length : Int) ≤ 9223372036854775807 := by have := h.1; unfold maxLen at this; omega
  have hb1 : Below w.heap.size w (w.alloc (.cells (vC coin pa l.length c) 24)) := (Below.refl _ _).alloc (Nat.le_refl _) _
  have hL : Lies (w.alloc (.cells (vC coin pa l.length c) 24)) w.heap.size (vC coin pa l.length c) 24 := Lies.new _ _ _
  have hC := wellPos _ pa l c (h.below hb1 (Nat.le_refl _))
  have H := Lib.hid (And.intro hC hb1)
  have c0 := hL.cell 0 (v := .int .i64 coin) rfl
  have c1 := hL.cell 1 (v := .slice pa l.length c) rfl
  clear h hC hb1 hL
  unfold vC
  unfold vC at H c0 c1
  go_enter Try.func9, Try.ntmps9
  by_cases hc : 0 ≤ coin
  · by_cases h30 : l.length ≤ 30
    · have m30 : (l.length : Int) ≤ 30 := by omega
      have HV := Lib.hid (show rightB coin l = wellB isPos l by unfold rightB; simp [hc, h30])
      go_wp2_with fail
      refine H.out.1.mono ?_
      rintro e w2 ⟨rfl, hb2⟩
      go_wp2_with fail
      go_ret
      refine ⟨?_, H.out.2.trans (hb2.mono H.out.2.size)⟩
      rw [HV.out]
      rfl
    · have m30 : ¬ (l.length : Int) ≤ 30 := by omega
      have HV := Lib.hid (show rightB coin l = false by unfold rightB; simp [h30])
      go_wp2_with fail
      go_ret
      refine ⟨?_, H.out.2⟩
      rw [HV.out]
      rfl
  · have HV := Lib.hid (show rightB coin l = false by unfold rightB; simp [hc])
    go_wp2_with fail
    go_ret
    refine ⟨?_, H.out.2⟩
    rw [HV.out]
    rfl
end Go.Proofs.Ytjngghihciimjaa
