/-
  A writer that takes nothing: none, one that nobody made, a spoilt one. Its calls turn nothing that is there.
-/
import Derived.Test.YtjbjagdpemnhiaaFault
namespace Go.Proofs.Ytjbjagdpemnhiaa
open Go.RowKit

def Idle (w : World) (p : Option Addr) : Prop :=
  p = none ∨ ∃ g, p = some ⟨g, 0, none⟩ ∧ g < w.heap.size ∧ (w.cell? ⟨g, 0, none⟩ = some (.pointer none) ∨ w.cell? ⟨g, 0, none⟩ = some (.pointer (some ⟨g, 0, none⟩)) ∧ w.cell? ⟨g, 1, none⟩ = some (.bool true))
theorem Idle.below {w w' : World} {p : Option Addr} (h : Idle w p) (hb : Below w.heap.size w w') : Idle w' p := by
  rcases h with h | ⟨g, h1, h2, h3⟩
  · exact .inl h
  · refine .inr ⟨g, h1, Nat.lt_of_lt_of_le h2 hb.size, ?_⟩
    rcases h3 with h | ⟨h, h'⟩
    · exact .inl ((hb.cell (p := ⟨g, 0, none⟩) h2).trans h)
    · exact .inr ⟨(hb.cell (p := ⟨g, 0, none⟩) h2).trans h, (hb.cell (p := ⟨g, 1, none⟩) h2).trans h'⟩
theorem takes_idle (w : World) (p : Option Addr) (h : Idle w p) : Calls Try.prog 79 #[.pointer p] w fun e w' => e = .returned (.bool false) ∧ w = w' := by
  rcases h with rfl | ⟨g, rfl, _, h | ⟨h, h'⟩⟩
  · exact takes_nil w
  · exact takes_none w g h
  · exact takes_self w g true h h'
/-- What a call does that turns nothing that is there, and tells nothing. -/
def Nothing (w : World) (e : Ending) (w' : World) : Prop := e = .returned (.tuple #[]) ∧ Below w.heap.size w w'

set_option maxRecDepth 100000 in
theorem number_idle (w : World) (p : Option Addr) (n s : Int) (h : Idle w p) : Calls Try.prog 80 #[.pointer p, .int .u64 n, .int .i64 s] w fun e w' => e = .returned (.tuple #[]) ∧ w = w' := by
  have he := takes_idle w p h
  go_enter Try.func80, Try.ntmps80
  go_wp2_with fail
  refine he.mono ?_
  rintro e w' ⟨rfl, rfl⟩
  clear he
  go_wp2_with fail
  refine bodyPost_ret (results_none rfl _ _ _) rfl ?_
  exact ⟨rfl, rfl⟩
set_option maxRecDepth 100000 in
theorem u8_idle (w : World) (p : Option Addr) (n : Int) (h : Idle w p) : Calls Try.prog 35 #[.pointer p, .int .i64 n] w fun e w' => e = .returned (.tuple #[]) ∧ w = w' := by
  have he := fun n => number_idle w p n 1 h
  go_enter Try.func35, Try.ntmps35
  go_wp2_with fail
  refine (he _).mono ?_
  rintro e w' ⟨rfl, rfl⟩
  clear he
  go_wp2_with fail
  go_end0
  exact ⟨rfl, rfl⟩
set_option maxRecDepth 100000 in
theorem u16_idle (w : World) (p : Option Addr) (n : Int) (h : Idle w p) : Calls Try.prog 28 #[.pointer p, .int .i64 n] w fun e w' => e = .returned (.tuple #[]) ∧ w = w' := by
  have he := fun n => number_idle w p n 2 h
  go_enter Try.func28, Try.ntmps28
  go_wp2_with fail
  refine (he _).mono ?_
  rintro e w' ⟨rfl, rfl⟩
  clear he
  go_wp2_with fail
  go_end0
  exact ⟨rfl, rfl⟩
set_option maxRecDepth 100000 in
theorem u32_idle (w : World) (p : Option Addr) (n : Int) (h : Idle w p) : Calls Try.prog 36 #[.pointer p, .int .i64 n] w fun e w' => e = .returned (.tuple #[]) ∧ w = w' := by
  have he := fun n => number_idle w p n 4 h
  go_enter Try.func36, Try.ntmps36
  go_wp2_with fail
  refine (he _).mono ?_
  rintro e w' ⟨rfl, rfl⟩
  clear he
  go_wp2_with fail
  go_end0
  exact ⟨rfl, rfl⟩
set_option maxRecDepth 100000 in
theorem u64_idle (w : World) (p : Option Addr) (n : Int) (h : Idle w p) : Calls Try.prog 37 #[.pointer p, .int .u64 n] w fun e w' => e = .returned (.tuple #[]) ∧ w = w' := by
  have he := fun n => number_idle w p n 8 h
  go_enter Try.func37, Try.ntmps37
  go_wp2_with fail
  refine (he _).mono ?_
  rintro e w' ⟨rfl, rfl⟩
  clear he
  go_wp2_with fail
  go_end0
  exact ⟨rfl, rfl⟩
set_option maxRecDepth 100000 in
theorem i64_idle (w : World) (p : Option Addr) (n : Int) (h : Idle w p) : Calls Try.prog 38 #[.pointer p, .int .i64 n] w fun e w' => e = .returned (.tuple #[]) ∧ w = w' := by
  have he := fun n => number_idle w p n 8 h
  go_enter Try.func38, Try.ntmps38
  go_wp2_with fail
  refine (he _).mono ?_
  rintro e w' ⟨rfl, rfl⟩
  clear he
  go_wp2_with fail
  go_end0
  exact ⟨rfl, rfl⟩
set_option maxRecDepth 100000 in
theorem raw_idle (w : World) (p : Option Addr) (v : Value) (h : Idle w p) : Calls Try.prog 27 #[.pointer p, v] w fun e w' => e = .returned (.tuple #[]) ∧ w = w' := by
  have he := takes_idle w p h
  go_enter Try.func27, Try.ntmps27
  go_wp2_with fail
  refine he.mono ?_
  rintro e w' ⟨rfl, rfl⟩
  clear he
  go_wp2_with fail
  go_end0
  exact ⟨rfl, rfl⟩
set_option maxRecDepth 100000 in
theorem text_idle (w : World) (p : Option Addr) (s : ByteArray) (h : Idle w p) : Calls Try.prog 29 #[.pointer p, .string s] w fun e w' => e = .returned (.tuple #[]) ∧ w = w' := by
  have he := takes_idle w p h
  have hu := fun n => u16_idle w p n h
  go_enter Try.func29, Try.ntmps29
  go_wp2_with fail
  refine (hu _).mono ?_
  rintro e w' ⟨rfl, rfl⟩
  clear hu
  go_wp2_with fail
  refine he.mono ?_
  rintro e w' ⟨rfl, rfl⟩
  clear he
  go_wp2_with fail
  go_end0
  exact ⟨rfl, rfl⟩
set_option maxRecDepth 100000 in
theorem flag_idle (w : World) (p : Option Addr) (b : Bool) (h : Idle w p) : Calls Try.prog 30 #[.pointer p, .bool b] w fun e w' => e = .returned (.tuple #[]) ∧ w = w' := by
  have he := fun n => u8_idle w p n h
  cases b
  all_goals
    go_enter Try.func30, Try.ntmps30
    go_wp2_with fail
    refine (he _).mono ?_
    rintro e w' ⟨rfl, rfl⟩
    clear he
    go_wp2_with fail
    go_end0
    exact ⟨rfl, rfl⟩
set_option maxRecDepth 100000 in
theorem spoil_idle (w : World) (p : Option Addr) (h : Idle w p) : Calls Try.prog 40 #[.pointer p] w fun e w' => e = .returned (.tuple #[]) ∧ w = w' := by
  have he := takes_idle w p h
  go_enter Try.func40, Try.ntmps40
  go_wp2_with fail
  refine he.mono ?_
  rintro e w' ⟨rfl, rfl⟩
  clear he
  go_wp2_with fail
  go_end0
  exact ⟨rfl, rfl⟩
end Go.Proofs.Ytjbjagdpemnhiaa
