/-
  FloatTells' walk.
-/
import Derived.Test.YtlgnkgcofdjamaaRefAddW
import Derived.Test.YtlgnkgcofdjamaaRefDivW
import Derived.Test.YtlgnkgcofdjamaaRefSqrt
import Derived.Test.YtlgnkgcofdjamaaRefInt
namespace Go.Proofs.Ytlgnkgcofdjamaa
open Go.RowKit

set_option maxRecDepth 100000 in
set_option maxHeartbeats 4000000 in
theorem tells_walk (a b : Nat) (n : Int) (ha : a < 2 ^ 64) (hb : b < 2 ^ 64) (hn1 : -9223372036854775808 ≤ n) (hn2 : n < 9223372036854775808) (w : World) :
    Calls Try.prog 3 #[.int .u64 a, .int .u64 b, .int .i64 n] w fun e w' => e = .returned (.bool true) ∧ Below w.heap.size w w' := by
  have K8 : Hid (Goes w 8 #[.int .u64 a] (.tuple #[.int .i64 (intR a), .bool (fitI a)])) := Lib.hid (goes_same fun W => int_any W a)
  have K9 : Hid (Goes w 9 #[.int .u64 a] (.tuple #[.int .i64 (intR a), .bool (fitI a)])) := Lib.hid (goes_of fun W => rint_any W a ha)
  have K10 : Hid (Goes w 10 #[.int .u64 a] (.bool (decide (canonB a = a)))) := Lib.hid (goes_of fun W => right_any W a)
  have K11 : Hid (Goes w 11 #[.int .u64 a] (.bool (decide (canonB a = a)))) := Lib.hid (goes_same fun W => rrightB_any W a ha)
  have K12 : Hid (Goes w 12 #[.int .u64 a] (.int .u64 (canonB a))) := Lib.hid (goes_of fun W => canon_any W a)
  have K13 : Hid (Goes w 13 #[.int .u64 a] (.int .u64 (canonB a))) := Lib.hid (goes_same fun W => rcanon_any W a ha)
  have K14 : Hid (Goes w 14 #[.int .u64 a] (.int .u64 (negB a))) := Lib.hid (goes_of fun W => neg_any W a ha)
  have K15 : Hid (Goes w 15 #[.int .u64 a] (.int .u64 (negB a))) := Lib.hid (goes_same fun W => rneg_any W a ha)
  have K16 : Hid (Goes w 16 #[.int .u64 a, .int .u64 b] (.int .u64 (addB a b))) := Lib.hid (goes_of fun W => add_any W a b)
  have K17 : Hid (Goes w 17 #[.int .u64 a, .int .u64 b] (.int .u64 (addB a b))) := Lib.hid (goes_of fun W => radd_any W a b ha hb)
  have K18 : Hid (Goes w 18 #[.int .u64 a, .int .u64 b] (.int .u64 (subB a b))) := Lib.hid (goes_of fun W => sub_any W a b)
  have K19 : Hid (Goes w 19 #[.int .u64 a, .int .u64 b] (.int .u64 (subB a b))) := Lib.hid (goes_of fun W => rsub_any W a b ha hb)
  have K20 : Hid (Goes w 20 #[.int .u64 a, .int .u64 b] (.int .u64 (mulB a b))) := Lib.hid (goes_of fun W => mul_any W a b)
  have K21 : Hid (Goes w 21 #[.int .u64 a, .int .u64 b] (.int .u64 (mulB a b))) := Lib.hid (goes_of fun W => rmul_any W a b ha hb)
  have K22 : Hid (Goes w 22 #[.int .u64 a, .int .u64 b] (.int .u64 (divB a b))) := Lib.hid (goes_of fun W => div_any W a b)
  have K23 : Hid (Goes w 23 #[.int .u64 a, .int .u64 b] (.int .u64 (divB a b))) := Lib.hid (goes_of fun W => rdiv_any W a b ha hb)
  have K24 : Hid (Goes w 24 #[.int .u64 a] (.int .u64 (sqrtB a))) := Lib.hid (goes_of fun W => sqrt_any W a)
  have K25 : Hid (Goes w 25 #[.int .u64 a] (.int .u64 (sqrtB a))) := Lib.hid (goes_of fun W => rsqrt_any W a ha)
  have K26 : Hid (Goes w 26 #[.int .u64 a, .int .u64 b] (.bool (lessB a b))) := Lib.hid (goes_of fun W => less_any W a b)
  have K27 : Hid (Goes w 27 #[.int .u64 a, .int .u64 b] (.bool (lessB a b))) := Lib.hid (goes_same fun W => rless_any W a b ha hb)
  have K28 : Hid (Goes w 28 #[.int .u64 a, .int .u64 b] (.bool (sameB a b))) := Lib.hid (goes_of fun W => same_any W a b)
  have K29 : Hid (Goes w 29 #[.int .u64 a, .int .u64 b] (.bool (sameB a b))) := Lib.hid (goes_same fun W => rsame_any W a b ha hb)
  have K30 : Hid (Goes w 30 #[.int .u64 a, .int .u64 b] (.int .i64 (orderB a b))) := Lib.hid (goes_of fun W => order_at W a b ha hb)
  have K31 : Hid (Goes w 31 #[.int .u64 a, .int .u64 b] (.int .i64 (orderB a b))) := Lib.hid (goes_same fun W => rorder_any W a b ha hb)
  have K32 : Hid (Goes w 32 #[.int .i64 n] (.int .u64 (ofB n))) := Lib.hid (goes_same fun W => of_any n W)
  have K33 : Hid (Goes w 33 #[.int .i64 n] (.int .u64 (ofB n))) := Lib.hid (goes_of fun W => rof_any W n hn1 hn2)
  have K34 : Hid (Goes w 34 #[] (.bool true)) := Lib.hid (goes_of awake_any)
  have hb0 := Below.refl w.heap.size w
  generalize intR a = x1 at *
  generalize fitI a = x2 at *
  generalize decide (canonB a = a) = x3 at *
  generalize canonB a = x4 at *
  generalize negB a = x5 at *
  generalize addB a b = x6 at *
  generalize subB a b = x7 at *
  generalize mulB a b = x8 at *
  generalize divB a b = x9 at *
  generalize sqrtB a = x10 at *
  generalize lessB a b = x11 at *
  generalize sameB a b = x12 at *
  generalize orderB a b = x13 at *
  generalize ofB n = x14 at *
  clear ha hb hn1 hn2
  go_enter Try.func3, Try.ntmps3
  go_wp2_with fail
  refine (K8.out.step hb0).mono ?_
  rintro e w8 ⟨rfl, hb1⟩
  clear hb0
  go_wp2_with fail
  refine (K9.out.step hb1).mono ?_
  rintro e w9 ⟨rfl, hb2⟩
  clear hb1
  go_wp2_with fail
  refine (K10.out.step hb2).mono ?_
  rintro e w10 ⟨rfl, hb3⟩
  clear hb2
  go_wp2_with fail
  refine (K11.out.step hb3).mono ?_
  rintro e w11 ⟨rfl, hb4⟩
  clear hb3
  go_wp2_with fail
  refine (K12.out.step hb4).mono ?_
  rintro e w12 ⟨rfl, hb5⟩
  clear hb4
  go_wp2_with fail
  refine (K13.out.step hb5).mono ?_
  rintro e w13 ⟨rfl, hb6⟩
  clear hb5
  go_wp2_with fail
  refine (K14.out.step hb6).mono ?_
  rintro e w14 ⟨rfl, hb7⟩
  clear hb6
  go_wp2_with fail
  refine (K15.out.step hb7).mono ?_
  rintro e w15 ⟨rfl, hb8⟩
  clear hb7
  go_wp2_with fail
  refine (K16.out.step hb8).mono ?_
  rintro e w16 ⟨rfl, hb9⟩
  clear hb8
  go_wp2_with fail
  refine (K17.out.step hb9).mono ?_
  rintro e w17 ⟨rfl, hb10⟩
  clear hb9
  go_wp2_with fail
  refine (K18.out.step hb10).mono ?_
  rintro e w18 ⟨rfl, hb11⟩
  clear hb10
  go_wp2_with fail
  refine (K19.out.step hb11).mono ?_
  rintro e w19 ⟨rfl, hb12⟩
  clear hb11
  go_wp2_with fail
  refine (K20.out.step hb12).mono ?_
  rintro e w20 ⟨rfl, hb13⟩
  clear hb12
  go_wp2_with fail
  refine (K21.out.step hb13).mono ?_
  rintro e w21 ⟨rfl, hb14⟩
  clear hb13
  go_wp2_with fail
  refine (K22.out.step hb14).mono ?_
  rintro e w22 ⟨rfl, hb15⟩
  clear hb14
  go_wp2_with fail
  refine (K23.out.step hb15).mono ?_
  rintro e w23 ⟨rfl, hb16⟩
  clear hb15
  go_wp2_with fail
  refine (K24.out.step hb16).mono ?_
  rintro e w24 ⟨rfl, hb17⟩
  clear hb16
  go_wp2_with fail
  refine (K25.out.step hb17).mono ?_
  rintro e w25 ⟨rfl, hb18⟩
  clear hb17
  go_wp2_with fail
  refine (K26.out.step hb18).mono ?_
  rintro e w26 ⟨rfl, hb19⟩
  clear hb18
  go_wp2_with fail
  refine (K27.out.step hb19).mono ?_
  rintro e w27 ⟨rfl, hb20⟩
  clear hb19
  go_wp2_with fail
  refine (K28.out.step hb20).mono ?_
  rintro e w28 ⟨rfl, hb21⟩
  clear hb20
  go_wp2_with fail
  refine (K29.out.step hb21).mono ?_
  rintro e w29 ⟨rfl, hb22⟩
  clear hb21
  go_wp2_with fail
  refine (K30.out.step hb22).mono ?_
  rintro e w30 ⟨rfl, hb23⟩
  clear hb22
  go_wp2_with fail
  refine (K31.out.step hb23).mono ?_
  rintro e w31 ⟨rfl, hb24⟩
  clear hb23
  go_wp2_with fail
  refine (K32.out.step hb24).mono ?_
  rintro e w32 ⟨rfl, hb25⟩
  clear hb24
  go_wp2_with fail
  refine (K33.out.step hb25).mono ?_
  rintro e w33 ⟨rfl, hb26⟩
  clear hb25
  go_wp2_with fail
  refine (K34.out.step hb26).mono ?_
  rintro e w34 ⟨rfl, hb27⟩
  clear hb26
  go_wp2_with fail
  go_ret
  exact ⟨rfl, hb27⟩
end Go.Proofs.Ytlgnkgcofdjamaa
