/-
  float.Of, float.Int; the chapter's examples.
-/
import Derived.Test.YtlgnkgcofdjamaaOrder
import Derived.Test.YtlgnkgcofdjamaaInts
namespace Go.Proofs.Ytlgnkgcofdjamaa
open Go.RowKit

theorem of_any (n : Int) (w : World) : Calls Try.prog 32 #[.int .i64 n] w fun e w' => e = .returned (.int .u64 (ofB n)) ∧ w = w' := by
  have hc : ∀ w : World, (convert 2 38 (.int .i64 n)).run Try.prog w = .ok (.float .f64 (ofB n)) w := fun w =>
    run_convert_int_float w 2 38 .i64 .f64 n (by kernel_rfl) (by kernel_rfl)
  have hb := fun w => bits_run (ofB n) w
  generalize ofB n = r at *
  go_enter Try.func32, Try.ntmps32
  go_wp2
  go_ret
  exact ⟨rfl, rfl⟩

def C1 : Nat := 14114281232179134464
def C2 : Nat := 4890909195324358656
theorem int_in (w : World) (a : Nat) (n : Int) (h1 : (orderIs .gt a C1 || orderIs .eq a C1) = true) (h2 : orderIs .lt a C2 = true) (h3 : floatToIntVal .f64 a .i64 = some n) :
    Calls Try.prog 8 #[.int .u64 a] w fun e w' => e = .returned (.tuple #[.int .i64 n, .bool true]) ∧ w = w' := by
  have hc : ∀ w : World, (convert 38 2 (.float .f64 a)).run Try.prog w = .ok (.int .i64 n) w := fun w =>
    run_convert_float_int w 38 2 .f64 .i64 a n (by kernel_rfl) (by kernel_rfl) h3
  have hn := number_nat a w
  unfold orderIs C1 at h1
  unfold orderIs C2 at h2
  clear h3
  go_enter Try.func8, Try.ntmps8
  go_wp2_with fail
  refine hn.mono ?_
  rintro e w' ⟨rfl, rfl⟩
  clear hn
  go_wp2_with fail
  go_ret2
  exact ⟨rfl, rfl⟩
theorem int_low (w : World) (a : Nat) (h1 : (orderIs .gt a C1 || orderIs .eq a C1) = false) :
    Calls Try.prog 8 #[.int .u64 a] w fun e w' => e = .returned (.tuple #[.int .i64 0, .bool false]) ∧ w = w' := by
  have hn := number_nat a w
  unfold orderIs C1 at h1
  go_enter Try.func8, Try.ntmps8
  go_wp2_with fail
  refine hn.mono ?_
  rintro e w' ⟨rfl, rfl⟩
  clear hn
  go_wp2_with fail
  go_ret2
  exact ⟨rfl, rfl⟩
theorem int_high (w : World) (a : Nat) (h1 : (orderIs .gt a C1 || orderIs .eq a C1) = true) (h2 : orderIs .lt a C2 = false) :
    Calls Try.prog 8 #[.int .u64 a] w fun e w' => e = .returned (.tuple #[.int .i64 0, .bool false]) ∧ w = w' := by
  have hn := number_nat a w
  unfold orderIs C1 at h1
  unfold orderIs C2 at h2
  go_enter Try.func8, Try.ntmps8
  go_wp2_with fail
  refine hn.mono ?_
  rintro e w' ⟨rfl, rfl⟩
  clear hn
  go_wp2_with fail
  go_ret2
  exact ⟨rfl, rfl⟩
end Go.Proofs.Ytlgnkgcofdjamaa
