/-
  A writer that takes nothing: none, one that nobody made, a spoilt one. Its calls turn nothing that is there.
-/
import Derived.Test.YtjbjagdpemnhiaaGreatFault
namespace Go.Proofs.YtjbjagdpemnhiaaGreat
open Go.RowKit

def Idle (w : World) (p : Option Addr) : Prop :=
  p = none ∨ ∃ g, p = some ⟨g, 0, none⟩ ∧ g < w.heap.size ∧ (w.cell? ⟨g, 0, none⟩ = some (.pointer none) ∨ w.cell? ⟨g, 0, none⟩ = some (.pointer (some ⟨g, 0, none⟩)) ∧ w.cell? ⟨g, 1, none⟩ = some (.bool true))
theorem Idle.below {w w' : World} {p : Option Addr} (h : Idle w p) (hb : Below w.heap.size w w') : Idle w' p := by
  rcases h with h | ⟨g, h1, h2, h3⟩
  · exact .inl h
  · refine .inr ⟨g, h1, Nat.lt_of_lt_of_le h2 hb.size, ?_⟩
    rcases h3 with h | ⟨h, h'⟩
    · exact .inl ((hb.cell (p := ⟨g, 0, none⟩) h2).trans h)
    · exact .inr ⟨(hb.cell (p := ⟨g, 0, none⟩) h2).trans h, (hb.cell (p := ⟨g, 1, none⟩) h2).trans h'⟩
theorem takes_idle (w : World) (p : Option Addr) (h : Idle w p) : Calls Tryz.prog 67 #[.pointer p] w fun e w' => e = .returned (.bool false) ∧ w = w' := by
  rcases h with rfl | ⟨g, rfl, _, h | ⟨h, h'⟩⟩
  · exact takes_nil w
  · exact takes_none w g h
  · exact takes_self w g true h h'
/-- What a call does that turns nothing that is there, and tells nothing. -/
def Nothing (w : World) (e : Ending) (w' : World) : Prop := e = .returned (.tuple #[]) ∧ Below w.heap.size w w'

set_option maxRecDepth 100000 in
theorem number_idle (w : World) (p : Option Addr) (n s : Int) (h : Idle w p) : Calls Tryz.prog 66 #[.pointer p, .int .u64 n, .int .i64 s] w fun e w' => e = .returned (.tuple #[]) ∧ w = w' := by
  have he := takes_idle w p h
  go_enter Tryz.func66, Tryz.ntmps66
  go_wp2_with fail
  refine he.mono ?_
  rintro e w' ⟨rfl, rfl⟩
  clear he
  go_wp2_with fail
  refine bodyPost_ret (results_none rfl _ _ _) rfl ?_
  exact ⟨rfl, rfl⟩
set_option maxRecDepth 100000 in
theorem u8_idle (w : World) (p : Option Addr) (n : Int) (h : Idle w p) : Calls Tryz.prog 26 #[.pointer p, .int .i64 n] w fun e w' => e = .returned (.tuple #[]) ∧ w = w' := by
  have he := fun n => number_idle w p n 1 h
  go_enter Tryz.func26, Tryz.ntmps26
  go_wp2_with fail
  refine (he _).mono ?_
  rintro e w' ⟨rfl, rfl⟩
  clear he
  go_wp2_with fail
  go_end0
  exact ⟨rfl, rfl⟩
set_option maxRecDepth 100000 in
theorem u16_idle (w : World) (p : Option Addr) (n : Int) (h : Idle w p) : Calls Tryz.prog 16 #[.pointer p, .int .i64 n] w fun e w' => e = .returned (.tuple #[]) ∧ w = w' := by
  have he := fun n => number_idle w p n 2 h
  go_enter Tryz.func16, Tryz.ntmps16
  go_wp2_with fail
  refine (he _).mono ?_
  rintro e w' ⟨rfl, rfl⟩
  clear he
  go_wp2_with fail
  go_end0
  exact ⟨rfl, rfl⟩
set_option maxRecDepth 100000 in
theorem u32_idle (w : World) (p : Option Addr) (n : Int) (h : Idle w p) : Calls Tryz.prog 27 #[.pointer p, .int .i64 n] w fun e w' => e = .returned (.tuple #[]) ∧ w = w' := by
  have he := fun n => number_idle w p n 4 h
  go_enter Tryz.func27, Tryz.ntmps27
  go_wp2_with fail
  refine (he _).mono ?_
  rintro e w' ⟨rfl, rfl⟩
  clear he
  go_wp2_with fail
  go_end0
  exact ⟨rfl, rfl⟩
set_option maxRecDepth 100000 in
theorem u64_idle (w : World) (p : Option Addr) (n : Int) (h : Idle w p) : Calls Tryz.prog 28 #[.pointer p, .int .u64 n] w fun e w' => e = .returned (.tuple #[]) ∧ w = w' := by
  have he := fun n => number_idle w p n 8 h
  go_enter Tryz.func28, Tryz.ntmps28
  go_wp2_with fail
  refine (he _).mono ?_
  rintro e w' ⟨rfl, rfl⟩
  clear he
  go_wp2_with fail
  go_end0
  exact ⟨rfl, rfl⟩
set_option maxRecDepth 100000 in
theorem i64_idle (w : World) (p : Option Addr) (n : Int) (h : Idle w p) : Calls Tryz.prog 29 #[.pointer p, .int .i64 n] w fun e w' => e = .returned (.tuple #[]) ∧ w = w' := by
  have he := fun n => number_idle w p n 8 h
  go_enter Tryz.func29, Tryz.ntmps29
  go_wp2_with fail
  refine (he _).mono ?_
  rintro e w' ⟨rfl, rfl⟩
  clear he
  go_wp2_with fail
  go_end0
  exact ⟨rfl, rfl⟩
set_option maxRecDepth 100000 in
theorem raw_idle (w : World) (p : Option Addr) (v : Value) (h : Idle w p) : Calls Tryz.prog 31 #[.pointer p, v] w fun e w' => e = .returned (.tuple #[]) ∧ w = w' := by
  have he := takes_idle w p h
  go_enter Tryz.func31, Tryz.ntmps31
  go_wp2_with fail
  refine he.mono ?_
  rintro e w' ⟨rfl, rfl⟩
  clear he
  go_wp2_with fail
  go_end0
  exact ⟨rfl, rfl⟩
set_option maxRecDepth 100000 in
theorem text_idle (w : World) (p : Option Addr) (s : ByteArray) (h : Idle w p) : Calls Tryz.prog 17 #[.pointer p, .string s] w fun e w' => e = .returned (.tuple #[]) ∧ w = w' := by
  have he := takes_idle w p h
  have hu := fun n => u16_idle w p n h
  go_enter Tryz.func17, Tryz.ntmps17
  go_wp2_with fail
  refine (hu _).mono ?_
  rintro e w' ⟨rfl, rfl⟩
  clear hu
  go_wp2_with fail
  refine he.mono ?_
  rintro e w' ⟨rfl, rfl⟩
  clear he
  go_wp2_with fail
  go_end0
  exact ⟨rfl, rfl⟩
set_option maxRecDepth 100000 in
theorem flag_idle (w : World) (p : Option Addr) (b : Bool) (h : Idle w p) : Calls Tryz.prog 18 #[.pointer p, .bool b] w fun e w' => e = .returned (.tuple #[]) ∧ w = w' := by
  have he := fun n => u8_idle w p n h
  cases b
  all_goals
    go_enter Tryz.func18, Tryz.ntmps18
    go_wp2_with fail
    refine (he _).mono ?_
    rintro e w' ⟨rfl, rfl⟩
    clear he
    go_wp2_with fail
    go_end0
    exact ⟨rfl, rfl⟩
set_option maxRecDepth 100000 in
theorem spoil_idle (w : World) (p : Option Addr) (h : Idle w p) : Calls Tryz.prog 32 #[.pointer p] w fun e w' => e = .returned (.tuple #[]) ∧ w = w' := by
  have he := takes_idle w p h
  go_enter Tryz.func32, Tryz.ntmps32
  go_wp2_with fail
  refine he.mono ?_
  rintro e w' ⟨rfl, rfl⟩
  clear he
  go_wp2_with fail
  go_end0
  exact ⟨rfl, rfl⟩
end Go.Proofs.YtjbjagdpemnhiaaGreat
