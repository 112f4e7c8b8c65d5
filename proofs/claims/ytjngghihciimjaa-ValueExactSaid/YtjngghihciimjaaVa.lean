/-
  A number as one of 128 bits, and back.
-/
import Derived.Test.YtjngghihciimjaaVh
namespace Go.Proofs.Ytjngghihciimjaa
set_option maxRecDepth 100000
open Go.RowKit Go.Sort

theorem info_wide : (Try.prog.info? 39).map (·.size) = some 2 := by kernel_rfl
set_option maxHeartbeats 1000000 in
theorem wide_any (w : World) (n : Int) (h0 : -9223372036854775808 ≤ n) (h1 : n < 9223372036854775808) :
    Calls Try.prog 32 #[.int .i64 n] w fun e w' => e = .returned (wv (wide n)) ∧ Below w.heap.size w w' := by
  have HV := Lib.hid (And.intro (hi_wide n h0 h1) (lo_wide n))
  go_enter Try.func32, Try.ntmps32
  go_wp2
  have hb1 : Below w.heap.size w (w.alloc (.cells #[.int .i64 (n / 9223372036854775808), .int .u64 (IntKind.u64.wrap n)] 39)) := (Below.refl _ _).alloc (Nat.le_refl _) _
  have e : IntKind.u64.wrap n = (loN (wide n) : Int) := by rw [HV.out.2]; rfl
  refine bodyPost_ret (v := .agg #[.int .i64 (n / 9223372036854775808), .int .u64 (IntKind.u64.wrap n)]) (results_cell_row (p := 2) (ty := 39) (by kernel_rfl) _ _ w.heap.size 39 #[.int .i64 (n / 9223372036854775808), .int .u64 (IntKind.u64.wrap n)] (0, 0) _ rfl (Lies.new _ _ _) Try.underlying39 rfl info_wide) rfl ⟨?_, hb1⟩
  unfold wv
  rw [HV.out.1, e]
set_option maxHeartbeats 1000000 in
theorem amount_any (w : World) (x : BitVec 128) (hx : fitsW x = true) :
    Calls Try.prog 42 #[wv x] w fun e w' => e = .returned (.int .i64 x.toNat) ∧ Below w.heap.size w w' := by
  have hh := (fits_halves x).1 hx
  have hlo : (loN x : Int) ≤ 9223372036854775807 := by omega
  have hlo0 : (0 : Int) ≤ (loN x : Int) := by omega
  have HX := Lib.hid (show loN x = x.toNat by unfold fitsW at hx; rw [decide_eq_true_iff] at hx; unfold loN; omega)
  unfold wv
  rw [hh.1]
  have hb1 : Below w.heap.size w (w.alloc (.cells #[.int .i64 0, .int .u64 (loN x)] 39)) := (Below.refl _ _).alloc (Nat.le_refl _) _
  have H := Lib.hid hb1
  clear hh hb1 hx
  generalize loN x = lo at *
  go_enter Try.func42, Try.ntmps42
  go_wp2
  go_ret
  refine ⟨?_, H.out⟩
  rw [← HX.out]
  rfl
end Go.Proofs.Ytjngghihciimjaa
