/-
  The document's own writer, spoilt or not: what each call makes of it.
-/
import Derived.Test.YtjbjagdpemnhiaaGreatRef
namespace Go.Proofs.YtjbjagdpemnhiaaGreat
open Go.RowKit

def RfS (w : World) (B g : Nat) (v : Value) : Option (List UInt8) → Prop
  | some l => RfV w B g v l
  | none => Lies w g #[v, .bool true] 38 ∧ v.ownBlock ≠ some g ∧ B ≤ g
def RMoreO (w : World) (B g : Nat) (v : Value) (st : Option (List UInt8)) (w' : World) : Prop :=
  ∃ v', RfS w' B g v' st ∧ Only g w w' v.ownBlock ∧ (v'.ownBlock = v.ownBlock ∨ ∃ k, v'.ownBlock = some k ∧ w.heap.size ≤ k ∧ k < w'.heap.size)
theorem RMoreO.same {w : World} {B g : Nat} {v : Value} {st : Option (List UInt8)} (h : RfS w B g v st) : RMoreO w B g v st w := ⟨v, h, Only.refl g w _, .inl rfl⟩
theorem RfS.bad {w : World} {B g : Nat} {v : Value} {st : Option (List UInt8)} (h : RfS w B g v st) : RfS (w.setCell ⟨g, 1, none⟩ (.bool true)) B g v none := by
  cases st with
  | none => exact ⟨h.1.set 1 _, h.2.1, h.2.2⟩
  | some l => exact ⟨h.1.set 1 _, h.2.2.1, h.2.2.2⟩
theorem RMoreO.bad {w : World} {B g : Nat} {v : Value} {st : Option (List UInt8)} (h : RfS w B g v st) : RMoreO w B g v none (w.setCell ⟨g, 1, none⟩ (.bool true)) := ⟨v, h.bad, (only_set g 1 w _).weak _, .inl rfl⟩
theorem RfS.cell1 {w : World} {B g : Nat} {v : Value} {st : Option (List UInt8)} (h : RfS w B g v st) : w.cell? ⟨g, 1, none⟩ = some (.bool st.isNone) := by
  cases st with
  | none => exact h.1.cell 1 rfl
  | some l => exact h.1.cell 1 rfl
theorem RfS.free1 {w : World} {B g : Nat} {v : Value} {st : Option (List UInt8)} (h : RfS w B g v st) : w.frozen? ⟨g, 1, none⟩ = false := by
  cases st with
  | none => exact h.1.free 1
  | some l => exact h.1.free 1
set_option maxRecDepth 100000 in
theorem rput_bad (w : World) (g : Nat) (n s : Int) (h : w.cell? ⟨g, 1, none⟩ = some (.bool true)) : Calls Tryz.prog 79 #[.pointer (some ⟨g, 0, none⟩), .int .u64 n, .int .i64 s] w fun e w' => e = .returned (.tuple #[]) ∧ w = w' := by
  go_enter Tryz.func79, Tryz.ntmps79
  go_wp2
  refine bodyPost_ret (results_none rfl _ _ _) rfl ?_
  exact ⟨rfl, rfl⟩
theorem rput_st (w : World) (B g : Nat) (v : Value) (st : Option (List UInt8)) (n s : Nat) (h : RfS w B g v st) (hB : B ≤ w.heap.size) (hx : ∀ l, st = some l → l.length ≤ 1000000) (hs : s ≤ 8) :
    Calls Tryz.prog 79 #[.pointer (some ⟨g, 0, none⟩), .int .u64 n, .int .i64 s] w fun e w' => e = .returned (.tuple #[]) ∧ RMoreO w B g v (stepB st (beN n s)) w' := by
  cases st with
  | none =>
    refine (rput_bad w g n s (h.1.cell 1 rfl)).mono ?_
    rintro e w' ⟨rfl, rfl⟩
    exact ⟨rfl, RMoreO.same h⟩
  | some l =>
    refine (rput_any w B g v l n s h hB (hx l rfl) hs).mono ?_
    rintro e w' ⟨rfl, v', h1, h2, h3⟩
    exact ⟨rfl, v', h1, h2, h3⟩
theorem low64_fit (n : Int) (h0 : 0 ≤ n) (h1 : n < 9223372036854775808) : ((low64 n : Nat) : Int) = n := by rw [low64_eq]; omega
theorem stepN_fit1 (st : Option (List UInt8)) (n : Int) (h0 : 0 ≤ n) (h1 : n < 256) : stepN st (low64 n) 1 = stepB st (beN (low64 n) 1) := by
  have e : low64 n / 2 ^ (8 * 1) = 0 := Nat.div_eq_of_lt (by have := low64_fit n h0 (by omega); omega)
  cases st with
  | none => rfl
  | some l => simp only [stepN, Option.bind_some, if_pos e, stepB, Option.map_some]
theorem stepN_not1 (st : Option (List UInt8)) (n : Int) (hlo : -9223372036854775808 ≤ n) (hhi : n < 9223372036854775808) (h1 : n < 0 ∨ 256 ≤ n) : stepN st (low64 n) 1 = none := by
  have e : ¬ low64 n / 2 ^ (8 * 1) = 0 := by
    have hle : 256 ≤ low64 n := by have := low64_eq n; omega
    have h3 : 1 ≤ low64 n / 256 := (Nat.le_div_iff_mul_le (by omega)).2 (by omega)
    have e2 : (2 : Nat) ^ (8 * 1) = 256 := by decide
    rw [e2]; omega
  cases st with
  | none => rfl
  | some l => simp only [stepN, Option.bind_some, if_neg e]
set_option maxRecDepth 100000 in
theorem rbelow1 (w : World) (B g : Nat) (v : Value) (st : Option (List UInt8)) (n : Int) (hlo : -9223372036854775808 ≤ n) (hhi : n < 9223372036854775808) (h : RfS w B g v st) (hB : B ≤ w.heap.size) (hx : ∀ l, st = some l → l.length ≤ 1000000) :
    Calls Tryz.prog 78 #[.pointer (some ⟨g, 0, none⟩), .int .i64 n, .int .i64 1] w fun e w' => e = .returned (.tuple #[]) ∧ RMoreO w B g v (stepN st (low64 n) 1) w' := by
  by_cases hfit : 0 ≤ n ∧ n < 256
  · obtain ⟨h0, h1⟩ := hfit
    rw [stepN_fit1 st n h0 h1]
    have he := rput_st w B g v st (low64 n) 1 h hB hx (by omega)
    rw [low64_fit n h0 hhi] at he
    have HE := Lib.hid he
    have hw : IntKind.u64.wrap n = n := by rw [IntKind.wrap_u64]; omega
    have hn0 : ¬ n < 0 := by omega
    have hn1 : ¬ 256 ≤ n := by omega
    clear he h hx
    go_enter Tryz.func78, Tryz.ntmps78
    go_wp2_with fail
    refine HE.out.mono ?_
    rintro e w1 ⟨rfl, hm⟩
    have HM := Lib.hid hm
    clear hm HE
    go_wp2_with fail
    go_end0
    exact ⟨rfl, HM.out⟩
  · have hor : n < 0 ∨ 256 ≤ n := by omega
    rw [stepN_not1 st n hlo hhi hor]
    have c1 := h.cell1
    have f1 := h.free1
    have hm := RMoreO.bad h
    have he := fun m => rput_bad (w.setCell ⟨g, 1, none⟩ (.bool true)) g m 1 (h.bad.1.cell 1 rfl)
    have HE := Lib.hid he
    have HM := Lib.hid hm
    clear hm he h hx
    rcases hor with hor | hor
    · go_enter Tryz.func78, Tryz.ntmps78
      go_wp2_with fail
      refine (HE.out _).mono ?_
      rintro e w1 ⟨rfl, rfl⟩
      go_wp2_with fail
      go_end0
      exact ⟨rfl, HM.out⟩
    · have hw : IntKind.u64.wrap n = n := by rw [IntKind.wrap_u64]; omega
      have hn0 : ¬ n < 0 := by omega
      go_enter Tryz.func78, Tryz.ntmps78
      go_wp2_with fail
      refine (HE.out _).mono ?_
      rintro e w1 ⟨rfl, rfl⟩
      go_wp2_with fail
      go_end0
      exact ⟨rfl, HM.out⟩
theorem stepN_fit2 (st : Option (List UInt8)) (n : Int) (h0 : 0 ≤ n) (h1 : n < 65536) : stepN st (low64 n) 2 = stepB st (beN (low64 n) 2) := by
  have e : low64 n / 2 ^ (8 * 2) = 0 := Nat.div_eq_of_lt (by have := low64_fit n h0 (by omega); omega)
  cases st with
  | none => rfl
  | some l => simp only [stepN, Option.bind_some, if_pos e, stepB, Option.map_some]
theorem stepN_not2 (st : Option (List UInt8)) (n : Int) (hlo : -9223372036854775808 ≤ n) (hhi : n < 9223372036854775808) (h1 : n < 0 ∨ 65536 ≤ n) : stepN st (low64 n) 2 = none := by
  have e : ¬ low64 n / 2 ^ (8 * 2) = 0 := by
    have hle : 65536 ≤ low64 n := by have := low64_eq n; omega
    have h3 : 1 ≤ low64 n / 65536 := (Nat.le_div_iff_mul_le (by omega)).2 (by omega)
    have e2 : (2 : Nat) ^ (8 * 2) = 65536 := by decide
    rw [e2]; omega
  cases st with
  | none => rfl
  | some l => simp only [stepN, Option.bind_some, if_neg e]
set_option maxRecDepth 100000 in
theorem rbelow2 (w : World) (B g : Nat) (v : Value) (st : Option (List UInt8)) (n : Int) (hlo : -9223372036854775808 ≤ n) (hhi : n < 9223372036854775808) (h : RfS w B g v st) (hB : B ≤ w.heap.size) (hx : ∀ l, st = some l → l.length ≤ 1000000) :
    Calls Tryz.prog 78 #[.pointer (some ⟨g, 0, none⟩), .int .i64 n, .int .i64 2] w fun e w' => e = .returned (.tuple #[]) ∧ RMoreO w B g v (stepN st (low64 n) 2) w' := by
  by_cases hfit : 0 ≤ n ∧ n < 65536
  · obtain ⟨h0, h1⟩ := hfit
    rw [stepN_fit2 st n h0 h1]
    have he := rput_st w B g v st (low64 n) 2 h hB hx (by omega)
    rw [low64_fit n h0 hhi] at he
    have HE := Lib.hid he
    have hw : IntKind.u64.wrap n = n := by rw [IntKind.wrap_u64]; omega
    have hn0 : ¬ n < 0 := by omega
    have hn1 : ¬ 65536 ≤ n := by omega
    clear he h hx
    go_enter Tryz.func78, Tryz.ntmps78
    go_wp2_with fail
    refine HE.out.mono ?_
    rintro e w1 ⟨rfl, hm⟩
    have HM := Lib.hid hm
    clear hm HE
    go_wp2_with fail
    go_end0
    exact ⟨rfl, HM.out⟩
  · have hor : n < 0 ∨ 65536 ≤ n := by omega
    rw [stepN_not2 st n hlo hhi hor]
    have c1 := h.cell1
    have f1 := h.free1
    have hm := RMoreO.bad h
    have he := fun m => rput_bad (w.setCell ⟨g, 1, none⟩ (.bool true)) g m 2 (h.bad.1.cell 1 rfl)
    have HE := Lib.hid he
    have HM := Lib.hid hm
    clear hm he h hx
    rcases hor with hor | hor
    · go_enter Tryz.func78, Tryz.ntmps78
      go_wp2_with fail
      refine (HE.out _).mono ?_
      rintro e w1 ⟨rfl, rfl⟩
      go_wp2_with fail
      go_end0
      exact ⟨rfl, HM.out⟩
    · have hw : IntKind.u64.wrap n = n := by rw [IntKind.wrap_u64]; omega
      have hn0 : ¬ n < 0 := by omega
      go_enter Tryz.func78, Tryz.ntmps78
      go_wp2_with fail
      refine (HE.out _).mono ?_
      rintro e w1 ⟨rfl, rfl⟩
      go_wp2_with fail
      go_end0
      exact ⟨rfl, HM.out⟩
theorem stepN_fit4 (st : Option (List UInt8)) (n : Int) (h0 : 0 ≤ n) (h1 : n < 4294967296) : stepN st (low64 n) 4 = stepB st (beN (low64 n) 4) := by
  have e : low64 n / 2 ^ (8 * 4) = 0 := Nat.div_eq_of_lt (by have := low64_fit n h0 (by omega); omega)
  cases st with
  | none => rfl
  | some l => simp only [stepN, Option.bind_some, if_pos e, stepB, Option.map_some]
theorem stepN_not4 (st : Option (List UInt8)) (n : Int) (hlo : -9223372036854775808 ≤ n) (hhi : n < 9223372036854775808) (h1 : n < 0 ∨ 4294967296 ≤ n) : stepN st (low64 n) 4 = none := by
  have e : ¬ low64 n / 2 ^ (8 * 4) = 0 := by
    have hle : 4294967296 ≤ low64 n := by have := low64_eq n; omega
    have h3 : 1 ≤ low64 n / 4294967296 := (Nat.le_div_iff_mul_le (by omega)).2 (by omega)
    have e2 : (2 : Nat) ^ (8 * 4) = 4294967296 := by decide
    rw [e2]; omega
  cases st with
  | none => rfl
  | some l => simp only [stepN, Option.bind_some, if_neg e]
set_option maxRecDepth 100000 in
theorem rbelow4 (w : World) (B g : Nat) (v : Value) (st : Option (List UInt8)) (n : Int) (hlo : -9223372036854775808 ≤ n) (hhi : n < 9223372036854775808) (h : RfS w B g v st) (hB : B ≤ w.heap.size) (hx : ∀ l, st = some l → l.length ≤ 1000000) :
    Calls Tryz.prog 78 #[.pointer (some ⟨g, 0, none⟩), .int .i64 n, .int .i64 4] w fun e w' => e = .returned (.tuple #[]) ∧ RMoreO w B g v (stepN st (low64 n) 4) w' := by
  by_cases hfit : 0 ≤ n ∧ n < 4294967296
  · obtain ⟨h0, h1⟩ := hfit
    rw [stepN_fit4 st n h0 h1]
    have he := rput_st w B g v st (low64 n) 4 h hB hx (by omega)
    rw [low64_fit n h0 hhi] at he
    have HE := Lib.hid he
    have hw : IntKind.u64.wrap n = n := by rw [IntKind.wrap_u64]; omega
    have hn0 : ¬ n < 0 := by omega
    have hn1 : ¬ 4294967296 ≤ n := by omega
    clear he h hx
    go_enter Tryz.func78, Tryz.ntmps78
    go_wp2_with fail
    refine HE.out.mono ?_
    rintro e w1 ⟨rfl, hm⟩
    have HM := Lib.hid hm
    clear hm HE
    go_wp2_with fail
    go_end0
    exact ⟨rfl, HM.out⟩
  · have hor : n < 0 ∨ 4294967296 ≤ n := by omega
    rw [stepN_not4 st n hlo hhi hor]
    have c1 := h.cell1
    have f1 := h.free1
    have hm := RMoreO.bad h
    have he := fun m => rput_bad (w.setCell ⟨g, 1, none⟩ (.bool true)) g m 4 (h.bad.1.cell 1 rfl)
    have HE := Lib.hid he
    have HM := Lib.hid hm
    clear hm he h hx
    rcases hor with hor | hor
    · go_enter Tryz.func78, Tryz.ntmps78
      go_wp2_with fail
      refine (HE.out _).mono ?_
      rintro e w1 ⟨rfl, rfl⟩
      go_wp2_with fail
      go_end0
      exact ⟨rfl, HM.out⟩
    · have hw : IntKind.u64.wrap n = n := by rw [IntKind.wrap_u64]; omega
      have hn0 : ¬ n < 0 := by omega
      go_enter Tryz.func78, Tryz.ntmps78
      go_wp2_with fail
      refine (HE.out _).mono ?_
      rintro e w1 ⟨rfl, rfl⟩
      go_wp2_with fail
      go_end0
      exact ⟨rfl, HM.out⟩
set_option maxRecDepth 100000 in
theorem ru8_st (w : World) (B g : Nat) (v : Value) (st : Option (List UInt8)) (n : Int) (hlo : -9223372036854775808 ≤ n) (hhi : n < 9223372036854775808) (h : RfS w B g v st) (hB : B ≤ w.heap.size) (hx : ∀ l, st = some l → l.length ≤ 1000000) :
    Calls Tryz.prog 33 #[.pointer (some ⟨g, 0, none⟩), .int .i64 n] w fun e w' => e = .returned (.tuple #[]) ∧ RMoreO w B g v (stepN st (low64 n) 1) w' := by
  have he := rbelow1 w B g v st n hlo hhi h hB hx
  have HE := Lib.hid he
  clear he h hx
  go_enter Tryz.func33, Tryz.ntmps33
  go_wp2_with fail
  refine HE.out.mono ?_
  rintro e w' ⟨rfl, hm⟩
  have HM := Lib.hid hm
  clear HE hm
  go_wp2_with fail
  go_end0
  exact ⟨rfl, HM.out⟩
set_option maxRecDepth 100000 in
theorem ru16_st (w : World) (B g : Nat) (v : Value) (st : Option (List UInt8)) (n : Int) (hlo : -9223372036854775808 ≤ n) (hhi : n < 9223372036854775808) (h : RfS w B g v st) (hB : B ≤ w.heap.size) (hx : ∀ l, st = some l → l.length ≤ 1000000) :
    Calls Tryz.prog 34 #[.pointer (some ⟨g, 0, none⟩), .int .i64 n] w fun e w' => e = .returned (.tuple #[]) ∧ RMoreO w B g v (stepN st (low64 n) 2) w' := by
  have he := rbelow2 w B g v st n hlo hhi h hB hx
  have HE := Lib.hid he
  clear he h hx
  go_enter Tryz.func34, Tryz.ntmps34
  go_wp2_with fail
  refine HE.out.mono ?_
  rintro e w' ⟨rfl, hm⟩
  have HM := Lib.hid hm
  clear HE hm
  go_wp2_with fail
  go_end0
  exact ⟨rfl, HM.out⟩
set_option maxRecDepth 100000 in
theorem ru32_st (w : World) (B g : Nat) (v : Value) (st : Option (List UInt8)) (n : Int) (hlo : -9223372036854775808 ≤ n) (hhi : n < 9223372036854775808) (h : RfS w B g v st) (hB : B ≤ w.heap.size) (hx : ∀ l, st = some l → l.length ≤ 1000000) :
    Calls Tryz.prog 35 #[.pointer (some ⟨g, 0, none⟩), .int .i64 n] w fun e w' => e = .returned (.tuple #[]) ∧ RMoreO w B g v (stepN st (low64 n) 4) w' := by
  have he := rbelow4 w B g v st n hlo hhi h hB hx
  have HE := Lib.hid he
  clear he h hx
  go_enter Tryz.func35, Tryz.ntmps35
  go_wp2_with fail
  refine HE.out.mono ?_
  rintro e w' ⟨rfl, hm⟩
  have HM := Lib.hid hm
  clear HE hm
  go_wp2_with fail
  go_end0
  exact ⟨rfl, HM.out⟩
theorem stepN8 (st : Option (List UInt8)) (n : Nat) (h : n < 18446744073709551616) : stepB st (beN n 8) = stepN st n 8 := by
  have e : n / 2 ^ (8 * 8) = 0 := Nat.div_eq_of_lt h
  cases st with
  | none => rfl
  | some l => simp only [stepN, Option.bind_some, if_pos e, stepB, Option.map_some]
set_option maxRecDepth 100000 in
theorem ru64_st (w : World) (B g : Nat) (v : Value) (st : Option (List UInt8)) (n : Nat) (h : RfS w B g v st) (hB : B ≤ w.heap.size) (hx : ∀ l, st = some l → l.length ≤ 1000000) (hn : n < 18446744073709551616) :
    Calls Tryz.prog 36 #[.pointer (some ⟨g, 0, none⟩), .int .u64 n] w fun e w' => e = .returned (.tuple #[]) ∧ RMoreO w B g v (stepN st n 8) w' := by
  have he := rput_st w B g v st n 8 h hB hx (by omega)
  rw [stepN8 st n hn] at he
  have HE := Lib.hid he
  clear he h hx
  go_enter Tryz.func36, Tryz.ntmps36
  go_wp2_with fail
  refine HE.out.mono ?_
  rintro e w' ⟨rfl, hm⟩
  have HM := Lib.hid hm
  clear HE hm
  go_wp2_with fail
  go_end0
  exact ⟨rfl, HM.out⟩
set_option maxRecDepth 100000 in
theorem ri64_st (w : World) (B g : Nat) (v : Value) (st : Option (List UInt8)) (n : Int) (m : Nat) (h : RfS w B g v st) (hB : B ≤ w.heap.size) (hx : ∀ l, st = some l → l.length ≤ 1000000) (hm : (m : Int) = n % 18446744073709551616) :
    Calls Tryz.prog 37 #[.pointer (some ⟨g, 0, none⟩), .int .i64 n] w fun e w' => e = .returned (.tuple #[]) ∧ RMoreO w B g v (stepN st m 8) w' := by
  have he := rput_st w B g v st m 8 h hB hx (by omega)
  rw [stepN8 st m (by omega)] at he
  have HE := Lib.hid he
  have hw : IntKind.u64.wrap n = (m : Int) := by rw [IntKind.wrap_u64]; omega
  clear he h hx hm
  go_enter Tryz.func37, Tryz.ntmps37
  go_wp2_with fail
  refine HE.out.mono ?_
  rintro e w' ⟨rfl, hm⟩
  have HM := Lib.hid hm
  clear HE hm
  go_wp2_with fail
  go_end0
  exact ⟨rfl, HM.out⟩
set_option maxRecDepth 100000 in
theorem rspoil_st (w : World) (B g : Nat) (v : Value) (st : Option (List UInt8)) (h : RfS w B g v st) : Calls Tryz.prog 42 #[.pointer (some ⟨g, 0, none⟩)] w fun e w' => e = .returned (.tuple #[]) ∧ RMoreO w B g v none w' := by
  have c1 := h.cell1
  have f1 := h.free1
  have hm := RMoreO.bad h
  have HM := Lib.hid hm
  clear hm h
  go_enter Tryz.func42, Tryz.ntmps42
  go_wp2_with fail
  go_end0
  exact ⟨rfl, HM.out⟩
end Go.Proofs.YtjbjagdpemnhiaaGreat
