/-
  A writer that takes: a number that does not fit spoils it; U8, U16, U32, U64 of numbers that fit.
-/
import Derived.Test.YtjbjagdpemnhiaaGreatNum
namespace Go.Proofs.YtjbjagdpemnhiaaGreat
open Go.RowKit

set_option maxRecDepth 100000 in
set_option maxHeartbeats 1000000 in
theorem number_big (w : World) (B g : Nat) (v : Value) (l : List UInt8) (n s : Nat) (h : WrV w B g v l) (hs : s ≤ 8) (hfit : n / 2 ^ (8 * s) ≠ 0) :
    Calls Tryz.prog 66 #[.pointer (some ⟨g, 0, none⟩), .int .u64 n, .int .i64 s] w fun e w' => e = .returned (.tuple #[]) ∧ w' = w.setCell ⟨g, 1, none⟩ (.bool true) := by
  have ht := takes_self w g false (h.1.cell 0 rfl) (h.1.cell 1 rfl)
  have hsp := spoil_any w g (.bool false) (h.1.cell 1 rfl) (h.1.free 1) rfl
  have HSP := Lib.hid hsp
  clear h hsp
  go_enter Tryz.func66, Tryz.ntmps66
  go_wp2_with fail
  refine ht.mono ?_
  rintro e w1 ⟨rfl, rfl⟩
  clear ht
  have hz : ((n : Int) / 2 ^ (8 * s) != 0) = true := by
    rw [bne_iff_ne]
    have e : (2 : Int) ^ (8 * s) = ((2 ^ (8 * s) : Nat) : Int) := by simp
    rw [e, ← Int.natCast_ediv]
    omega
  go_wp2_with fail
  refine HSP.out.mono ?_
  rintro e w2 ⟨rfl, hw2⟩
  have HW2 := Lib.hid hw2
  clear hw2 hz hfit
  go_wp2_with fail
  refine bodyPost_ret (results_none rfl _ _ _) rfl ?_
  exact ⟨rfl, HW2.out⟩
set_option maxRecDepth 100000 in
theorem u8_any (w : World) (B g : Nat) (v : Value) (l : List UInt8) (n : Nat) (h : WrV w B g v l) (hB : B ≤ w.heap.size) (hx : l.length ≤ 1000000) (hn : n < 256) :
    Calls Tryz.prog 26 #[.pointer (some ⟨g, 0, none⟩), .int .i64 n] w fun e w' => e = .returned (.tuple #[]) ∧ More w B g v (l ++ beN n 1) w' := by
  have he := number_any w B g v l n 1 h hB hx (by omega) (by omega) (Nat.div_eq_of_lt hn)
  have HE := Lib.hid he
  clear he h
  have hw : IntKind.u64.wrap (n : Int) = (n : Int) := by rw [IntKind.wrap_u64]; omega
  go_enter Tryz.func26, Tryz.ntmps26
  go_wp2_with fail
  refine HE.out.mono ?_
  rintro e w' ⟨rfl, hm⟩
  have HM := Lib.hid hm
  clear HE hm
  go_wp2_with fail
  go_end0
  exact ⟨rfl, HM.out⟩
set_option maxRecDepth 100000 in
theorem u16_any (w : World) (B g : Nat) (v : Value) (l : List UInt8) (n : Nat) (h : WrV w B g v l) (hB : B ≤ w.heap.size) (hx : l.length ≤ 1000000) (hn : n < 65536) :
    Calls Tryz.prog 16 #[.pointer (some ⟨g, 0, none⟩), .int .i64 n] w fun e w' => e = .returned (.tuple #[]) ∧ More w B g v (l ++ beN n 2) w' := by
  have he := number_any w B g v l n 2 h hB hx (by omega) (by omega) (Nat.div_eq_of_lt hn)
  have HE := Lib.hid he
  clear he h
  have hw : IntKind.u64.wrap (n : Int) = (n : Int) := by rw [IntKind.wrap_u64]; omega
  go_enter Tryz.func16, Tryz.ntmps16
  go_wp2_with fail
  refine HE.out.mono ?_
  rintro e w' ⟨rfl, hm⟩
  have HM := Lib.hid hm
  clear HE hm
  go_wp2_with fail
  go_end0
  exact ⟨rfl, HM.out⟩
end Go.Proofs.YtjbjagdpemnhiaaGreat
