/-
  A writer, spoilt or not, and what each call that puts a number, a hash or a flag makes of it.
-/
import Derived.Test.YtjbjagdpemnhiaaGreatPuts
import Derived.Test.YtjbjagdpemnhiaaGreatRd
namespace Go.Proofs.YtjbjagdpemnhiaaGreat
open Go.RowKit

/-- A writer in block g: its bytes, or spoilt. -/
def WSt (w : World) (B g : Nat) (v : Value) : Option (List UInt8) → Prop
  | some l => WrV w B g v l
  | none => Lies w g #[.pointer (some ⟨g, 0, none⟩), .bool true, v] 62 ∧ B ≤ g
def MoreO (w : World) (B g : Nat) (v : Value) (st : Option (List UInt8)) (w' : World) : Prop :=
  ∃ v', WSt w' B g v' st ∧ Only g w w' v.ownBlock ∧ (v'.ownBlock = v.ownBlock ∨ ∃ k, v'.ownBlock = some k ∧ w.heap.size ≤ k ∧ k < w'.heap.size)
theorem Only.weak {g : Nat} {w w' : World} (h : Only g w w' none) (o : Option Nat) : Only g w w' o := ⟨h.os, h.tape, h.output, h.size, fun k hk hg _ => h.block k hk hg (by simp)⟩
theorem MoreO.same {w : World} {B g : Nat} {v : Value} {st : Option (List UInt8)} (h : WSt w B g v st) : MoreO w B g v st w := ⟨v, h, Only.refl g w _, .inl rfl⟩
theorem MoreO.below {w w' : World} {B g : Nat} {v : Value} (h : WSt w B g v none) (hb : Below w.heap.size w w') : MoreO w B g v none w' := ⟨v, ⟨h.1.below hb h.1.lt, h.2⟩, (only_below hb).weak _, .inl rfl⟩
theorem WSt.idle {w : World} {B g : Nat} {v : Value} (h : WSt w B g v none) : Idle w (some ⟨g, 0, none⟩) := .inr ⟨g, rfl, h.1.lt, .inr ⟨h.1.cell 0 rfl, h.1.cell 1 rfl⟩⟩
theorem MoreO.spoilt {w : World} {B g : Nat} {v : Value} {l : List UInt8} (h : WrV w B g v l) : MoreO w B g v none (w.setCell ⟨g, 1, none⟩ (.bool true)) :=
  ⟨v, ⟨h.1.set 1 _, h.2.2.2⟩, (only_set g 1 w _).weak _, .inl rfl⟩
def stepN (st : Option (List UInt8)) (n s : Nat) : Option (List UInt8) := st.bind fun l => if n / 2 ^ (8 * s) = 0 then some (l ++ beN n s) else none
theorem num_st (w : World) (B g : Nat) (v : Value) (st : Option (List UInt8)) (n s : Nat) (h : WSt w B g v st) (hB : B ≤ w.heap.size) (hx : ∀ l, st = some l → l.length ≤ 1000000) (hn : n < 18446744073709551616) (hs : s ≤ 8) :
    Calls Tryz.prog 66 #[.pointer (some ⟨g, 0, none⟩), .int .u64 n, .int .i64 s] w fun e w' => e = .returned (.tuple #[]) ∧ MoreO w B g v (stepN st n s) w' := by
  cases st with
  | none =>
    refine (number_idle w _ n s h.idle).mono ?_
    rintro e w' ⟨rfl, rfl⟩
    exact ⟨rfl, MoreO.same h⟩
  | some l =>
    by_cases hf : n / 2 ^ (8 * s) = 0
    · refine (number_any w B g v l n s h hB (hx l rfl) hn hs hf).mono ?_
      rintro e w' ⟨rfl, v', h1, h2, h3⟩
      have e1 : stepN (some l) n s = some (l ++ beN n s) := by simp [stepN, hf]
      exact ⟨rfl, v', by rw [e1]; exact h1, h2, h3⟩
    · refine (number_big w B g v l n s h hs hf).mono ?_
      rintro e w' ⟨rfl, rfl⟩
      have e1 : stepN (some l) n s = none := by simp [stepN, hf]
      exact ⟨rfl, by rw [e1]; exact MoreO.spoilt h⟩
theorem wrap_nat (n : Int) : ∃ m : Nat, IntKind.u64.wrap n = (m : Int) ∧ m < 18446744073709551616 ∧ (m : Int) = n % 18446744073709551616 := by
  have e : IntKind.u64.wrap n = n % 18446744073709551616 := by rw [IntKind.wrap_u64]
  refine ⟨(n % 18446744073709551616).toNat, ?_, ?_, ?_⟩ <;> omega
set_option maxRecDepth 100000 in
theorem u8_st (w : World) (B g : Nat) (v : Value) (st : Option (List UInt8)) (n : Int) (m : Nat) (h : WSt w B g v st) (hB : B ≤ w.heap.size) (hx : ∀ l, st = some l → l.length ≤ 1000000) (hm : (m : Int) = n % 18446744073709551616) :
    Calls Tryz.prog 26 #[.pointer (some ⟨g, 0, none⟩), .int .i64 n] w fun e w' => e = .returned (.tuple #[]) ∧ MoreO w B g v (stepN st m 1) w' := by
  have he := num_st w B g v st m 1 h hB hx (by omega) (by omega)
  have HE := Lib.hid he
  have hw : IntKind.u64.wrap n = (m : Int) := by rw [IntKind.wrap_u64]; omega
  clear he h hx hm
  go_enter Tryz.func26, Tryz.ntmps26
  go_wp2_with fail
  refine HE.out.mono ?_
  rintro e w' ⟨rfl, hm⟩
  have HM := Lib.hid hm
  clear HE hm
  go_wp2_with fail
  go_end0
  exact ⟨rfl, HM.out⟩
set_option maxRecDepth 100000 in
theorem u16_st (w : World) (B g : Nat) (v : Value) (st : Option (List UInt8)) (n : Int) (m : Nat) (h : WSt w B g v st) (hB : B ≤ w.heap.size) (hx : ∀ l, st = some l → l.length ≤ 1000000) (hm : (m : Int) = n % 18446744073709551616) :
    Calls Tryz.prog 16 #[.pointer (some ⟨g, 0, none⟩), .int .i64 n] w fun e w' => e = .returned (.tuple #[]) ∧ MoreO w B g v (stepN st m 2) w' := by
  have he := num_st w B g v st m 2 h hB hx (by omega) (by omega)
  have HE := Lib.hid he
  have hw : IntKind.u64.wrap n = (m : Int) := by rw [IntKind.wrap_u64]; omega
  clear he h hx hm
  go_enter Tryz.func16, Tryz.ntmps16
  go_wp2_with fail
  refine HE.out.mono ?_
  rintro e w' ⟨rfl, hm⟩
  have HM := Lib.hid hm
  clear HE hm
  go_wp2_with fail
  go_end0
  exact ⟨rfl, HM.out⟩
set_option maxRecDepth 100000 in
theorem u32_st (w : World) (B g : Nat) (v : Value) (st : Option (List UInt8)) (n : Int) (m : Nat) (h : WSt w B g v st) (hB : B ≤ w.heap.size) (hx : ∀ l, st = some l → l.length ≤ 1000000) (hm : (m : Int) = n % 18446744073709551616) :
    Calls Tryz.prog 27 #[.pointer (some ⟨g, 0, none⟩), .int .i64 n] w fun e w' => e = .returned (.tuple #[]) ∧ MoreO w B g v (stepN st m 4) w' := by
  have he := num_st w B g v st m 4 h hB hx (by omega) (by omega)
  have HE := Lib.hid he
  have hw : IntKind.u64.wrap n = (m : Int) := by rw [IntKind.wrap_u64]; omega
  clear he h hx hm
  go_enter Tryz.func27, Tryz.ntmps27
  go_wp2_with fail
  refine HE.out.mono ?_
  rintro e w' ⟨rfl, hm⟩
  have HM := Lib.hid hm
  clear HE hm
  go_wp2_with fail
  go_end0
  exact ⟨rfl, HM.out⟩
set_option maxRecDepth 100000 in
theorem i64_st (w : World) (B g : Nat) (v : Value) (st : Option (List UInt8)) (n : Int) (m : Nat) (h : WSt w B g v st) (hB : B ≤ w.heap.size) (hx : ∀ l, st = some l → l.length ≤ 1000000) (hm : (m : Int) = n % 18446744073709551616) :
    Calls Tryz.prog 29 #[.pointer (some ⟨g, 0, none⟩), .int .i64 n] w fun e w' => e = .returned (.tuple #[]) ∧ MoreO w B g v (stepN st m 8) w' := by
  have he := num_st w B g v st m 8 h hB hx (by omega) (by omega)
  have HE := Lib.hid he
  have hw : IntKind.u64.wrap n = (m : Int) := by rw [IntKind.wrap_u64]; omega
  clear he h hx hm
  go_enter Tryz.func29, Tryz.ntmps29
  go_wp2_with fail
  refine HE.out.mono ?_
  rintro e w' ⟨rfl, hm⟩
  have HM := Lib.hid hm
  clear HE hm
  go_wp2_with fail
  go_end0
  exact ⟨rfl, HM.out⟩
set_option maxRecDepth 100000 in
theorem u64_st (w : World) (B g : Nat) (v : Value) (st : Option (List UInt8)) (n : Nat) (h : WSt w B g v st) (hB : B ≤ w.heap.size) (hx : ∀ l, st = some l → l.length ≤ 1000000) (hn : n < 18446744073709551616) :
    Calls Tryz.prog 28 #[.pointer (some ⟨g, 0, none⟩), .int .u64 n] w fun e w' => e = .returned (.tuple #[]) ∧ MoreO w B g v (stepN st n 8) w' := by
  have he := num_st w B g v st n 8 h hB hx hn (by omega)
  have HE := Lib.hid he
  clear he h hx
  go_enter Tryz.func28, Tryz.ntmps28
  go_wp2_with fail
  refine HE.out.mono ?_
  rintro e w' ⟨rfl, hm⟩
  have HM := Lib.hid hm
  clear HE hm
  go_wp2_with fail
  go_end0
  exact ⟨rfl, HM.out⟩
end Go.Proofs.YtjbjagdpemnhiaaGreat
