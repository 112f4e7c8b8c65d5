/-
  The document's own: kind (64).
  The document's own: kind (64), at texts.
  The document's own: kind (64), at maps.
  The document's own: kind (64), at reals, and where there is none.
  The document's own: kind (64), at tags.
  The document's own: kind (64), of any node.
-/
import Derived.Test.YtieoiklgoeclaaaRq
namespace Go.Proofs.Ytieoiklgoeclaaa
open Go.RowKit

/-- What kind tells of a node: all of a node's own rules. -/
def kindR (x : Nd) : Bool :=
  if x.kind = 1 then justB x ⟨0, x.num, 0, ⟨#[]⟩, 0⟩
  else if x.kind = 2 then decide (x.txt.size ≤ 200) && justB x ⟨0, 0, 0, x.txt, 0⟩
  else if x.kind = 3 then decide (canonB x.bits = x.bits) && justB x ⟨0, 0, x.bits, ⟨#[]⟩, 0⟩
  else if x.kind = 4 then justB x ⟨0, 0, 0, ⟨#[]⟩, x.kids⟩
  else if x.kind = 5 then tagIn x.num && justB x ⟨0, x.num, 0, ⟨#[]⟩, x.kids⟩
  else if x.kind = 6 then decide (x.kids % 2 = 0) && justB x ⟨0, 0, 0, ⟨#[]⟩, x.kids⟩ else false
theorem below_two (w : World) (c d : Array Value) : Below w.heap.size w ((w.alloc (.cells c 32)).alloc (.cells d 32)) := ((Below.refl _ _).alloc (Nat.le_refl _) _).alloc (by simp) _
theorem nil_toList : (⟨#[]⟩ : ByteArray).toList = [] := by rw [ByteArray.toList_eq]
set_option maxRecDepth 100000 in
set_option maxHeartbeats 4000000 in
theorem rkind_1 (w : World) (n1 : Int) (b1 : Nat) (t1 : ByteArray) (d1 : Int) (hb : b1 < 2 ^ 64) (hd : 0 ≤ d1) :
    Calls Try.prog 64 #[.agg #[.int .i64 1, .int .i64 n1, .int .u64 b1, .string t1, .int .i64 d1]] w fun e w' => e = .returned (.bool (kindR ⟨1, n1, b1, t1, d1⟩)) ∧ Below w.heap.size w w' := by
  have HB := Lib.hid (below_two w)
  obtain ⟨r, hr⟩ : ∃ r, r = kindR ⟨1, n1, b1, t1, d1⟩ := ⟨_, rfl⟩
  have HR : Hid (r = (decide (b1 = 0) && (decide (t1.toList = []) && decide (d1 = 0)))) := Lib.hid (by rw [hr]; by_cases z1 : n1 = 0 <;> by_cases z2 : b1 = 0 <;> by_cases z3 : d1 = 0 <;> by_cases z4 : t1.toList = [] <;> simp [kindR, justB, nil_toList, tagIn, @eq_comm Nat 0 b1, @eq_comm Int 0 d1, @eq_comm Int 0 n1, @eq_comm _ [] t1.toList, z1, z2, z3, z4])
  rw [← hr]
  clear hr
  by_cases z2 : b1 = 0 <;> by_cases z3 : d1 = 0 <;> by_cases z4 : t1.toList = []
  all_goals
    go_enter Try.func64, Try.ntmps64
    go_wp2_with fail
    go_ret
    exact ⟨by rw [HR.out]; simp [z2, z3, z4], HB.out _ _⟩
set_option maxRecDepth 100000 in
set_option maxHeartbeats 4000000 in
theorem rkind_4 (w : World) (n1 : Int) (b1 : Nat) (t1 : ByteArray) (d1 : Int) (hb : b1 < 2 ^ 64) (hd : 0 ≤ d1) :
    Calls Try.prog 64 #[.agg #[.int .i64 4, .int .i64 n1, .int .u64 b1, .string t1, .int .i64 d1]] w fun e w' => e = .returned (.bool (kindR ⟨4, n1, b1, t1, d1⟩)) ∧ Below w.heap.size w w' := by
  have HB := Lib.hid (below_two w)
  obtain ⟨r, hr⟩ : ∃ r, r = kindR ⟨4, n1, b1, t1, d1⟩ := ⟨_, rfl⟩
  have HR : Hid (r = (decide (n1 = 0) && (decide (b1 = 0) && decide (t1.toList = [])))) := Lib.hid (by rw [hr]; by_cases z1 : n1 = 0 <;> by_cases z2 : b1 = 0 <;> by_cases z3 : d1 = 0 <;> by_cases z4 : t1.toList = [] <;> simp [kindR, justB, nil_toList, tagIn, @eq_comm Nat 0 b1, @eq_comm Int 0 d1, @eq_comm Int 0 n1, @eq_comm _ [] t1.toList, z1, z2, z3, z4])
  rw [← hr]
  clear hr
  by_cases z1 : n1 = 0 <;> by_cases z2 : b1 = 0 <;> by_cases z4 : t1.toList = []
  all_goals
    go_enter Try.func64, Try.ntmps64
    go_wp2_with fail
    go_ret
    exact ⟨by rw [HR.out]; simp [z1, z2, z4], HB.out _ _⟩
end Go.Proofs.Ytieoiklgoeclaaa
namespace Go.Proofs.Ytieoiklgoeclaaa
open Go.RowKit

set_option maxRecDepth 100000 in
set_option maxHeartbeats 4000000 in
theorem rkind_2 (w : World) (n1 : Int) (b1 : Nat) (t1 : ByteArray) (d1 : Int) (hb : b1 < 2 ^ 64) (hd : 0 ≤ d1) :
    Calls Try.prog 64 #[.agg #[.int .i64 2, .int .i64 n1, .int .u64 b1, .string t1, .int .i64 d1]] w fun e w' => e = .returned (.bool (kindR ⟨2, n1, b1, t1, d1⟩)) ∧ Below w.heap.size w w' := by
  have HB := Lib.hid (below_two w)
  obtain ⟨r, hr⟩ : ∃ r, r = kindR ⟨2, n1, b1, t1, d1⟩ := ⟨_, rfl⟩
  have HR : Hid (r = (decide (t1.size ≤ 200) && (decide (n1 = 0) && (decide (b1 = 0) && decide (d1 = 0))))) := Lib.hid (by rw [hr]; by_cases z1 : n1 = 0 <;> by_cases z2 : b1 = 0 <;> by_cases z3 : d1 = 0 <;> by_cases z4 : t1.toList = [] <;> simp [kindR, justB, nil_toList, tagIn, @eq_comm Nat 0 b1, @eq_comm Int 0 d1, @eq_comm Int 0 n1, @eq_comm _ [] t1.toList, z1, z2, z3, z4])
  rw [← hr]
  clear hr
  by_cases z1 : n1 = 0 <;> by_cases z2 : b1 = 0 <;> by_cases z3 : d1 = 0
  all_goals
    go_enter Try.func64, Try.ntmps64
    go_wp2_with fail
    go_ret
    exact ⟨by rw [HR.out]; first | (simp [z1, z2, z3]; done) | (simp [z1, z2, z3]; omega), HB.out _ _⟩
end Go.Proofs.Ytieoiklgoeclaaa
namespace Go.Proofs.Ytieoiklgoeclaaa
open Go.RowKit

set_option maxRecDepth 100000 in
set_option maxHeartbeats 4000000 in
theorem rkind_6 (w : World) (n1 : Int) (b1 : Nat) (t1 : ByteArray) (d1 : Int) (hb : b1 < 2 ^ 64) (hd : 0 ≤ d1) :
    Calls Try.prog 64 #[.agg #[.int .i64 6, .int .i64 n1, .int .u64 b1, .string t1, .int .i64 d1]] w fun e w' => e = .returned (.bool (kindR ⟨6, n1, b1, t1, d1⟩)) ∧ Below w.heap.size w w' := by
  have HB := Lib.hid (below_two w)
  obtain ⟨r, hr⟩ : ∃ r, r = kindR ⟨6, n1, b1, t1, d1⟩ := ⟨_, rfl⟩
  have HR : Hid (r = (decide (d1 % 2 = 0) && (decide (n1 = 0) && (decide (b1 = 0) && decide (t1.toList = []))))) := Lib.hid (by rw [hr]; by_cases z1 : n1 = 0 <;> by_cases z2 : b1 = 0 <;> by_cases z3 : d1 = 0 <;> by_cases z4 : t1.toList = [] <;> simp [kindR, justB, nil_toList, tagIn, @eq_comm Nat 0 b1, @eq_comm Int 0 d1, @eq_comm Int 0 n1, @eq_comm _ [] t1.toList, z1, z2, z3, z4])
  rw [← hr]
  clear hr
  have hm : d1.tmod 2 = d1 % 2 := Int.tmod_eq_emod_of_nonneg hd
  by_cases z1 : n1 = 0 <;> by_cases z2 : b1 = 0 <;> by_cases z4 : t1.toList = []
  all_goals
    go_enter Try.func64, Try.ntmps64
    go_wp2_with fail
    go_ret
    exact ⟨by rw [HR.out]; first | (simp [z1, z2, z4]; done) | (simp [z1, z2, z4]; rw [Bool.eq_iff_iff]; simp), HB.out _ _⟩
end Go.Proofs.Ytieoiklgoeclaaa
namespace Go.Proofs.Ytieoiklgoeclaaa
open Go.RowKit

set_option maxRecDepth 100000 in
set_option maxHeartbeats 4000000 in
theorem rkind_3 (w : World) (n1 : Int) (b1 : Nat) (t1 : ByteArray) (d1 : Int) (hb : b1 < 2 ^ 64) (hd : 0 ≤ d1) :
    Calls Try.prog 64 #[.agg #[.int .i64 3, .int .i64 n1, .int .u64 b1, .string t1, .int .i64 d1]] w fun e w' => e = .returned (.bool (kindR ⟨3, n1, b1, t1, d1⟩)) ∧ Below w.heap.size w w' := by
  have HB := Lib.hid (below_two w)
  obtain ⟨r, hr⟩ : ∃ r, r = kindR ⟨3, n1, b1, t1, d1⟩ := ⟨_, rfl⟩
  have HR : Hid (r = (decide (canonB b1 = b1) && (decide (n1 = 0) && (decide (t1.toList = []) && decide (d1 = 0))))) := Lib.hid (by rw [hr]; by_cases z1 : n1 = 0 <;> by_cases z2 : b1 = 0 <;> by_cases z3 : d1 = 0 <;> by_cases z4 : t1.toList = [] <;> simp [kindR, justB, nil_toList, tagIn, @eq_comm Nat 0 b1, @eq_comm Int 0 d1, @eq_comm Int 0 n1, @eq_comm _ [] t1.toList, z1, z2, z3, z4])
  rw [← hr]
  clear hr
  by_cases z1 : n1 = 0 <;> by_cases z3 : d1 = 0 <;> by_cases z4 : t1.toList = []
  · skip
    go_enter Try.func64, Try.ntmps64
    go_wp2_with fail
    refine (rrightB_any _ b1 hb).mono ?_
    rintro e w' ⟨rfl, rfl⟩
    go_wp2_with fail
    go_ret
    exact ⟨by rw [HR.out]; simp [z1, z3, z4], HB.out _ _⟩
  all_goals
    go_enter Try.func64, Try.ntmps64
    go_wp2_with fail
    go_ret
    exact ⟨by rw [HR.out]; simp [z1, z3, z4], HB.out _ _⟩
set_option maxRecDepth 100000 in
set_option maxHeartbeats 4000000 in
theorem rkind_o (w : World) (k1 n1 : Int) (b1 : Nat) (t1 : ByteArray) (d1 : Int) (h1 : ¬ k1 = 1) (h2 : ¬ k1 = 2) (h3 : ¬ k1 = 3) (h4 : ¬ k1 = 4) (h5 : ¬ k1 = 5) (h6 : ¬ k1 = 6) :
    Calls Try.prog 64 #[.agg #[.int .i64 k1, .int .i64 n1, .int .u64 b1, .string t1, .int .i64 d1]] w fun e w' => e = .returned (.bool (kindR ⟨k1, n1, b1, t1, d1⟩)) ∧ Below w.heap.size w w' := by
  have HB := Lib.hid (below_two w)
  have HR : Hid (kindR ⟨k1, n1, b1, t1, d1⟩ = false) := Lib.hid (by simp [kindR, h1, h2, h3, h4, h5, h6])
  obtain ⟨r, hr⟩ : ∃ r, r = kindR ⟨k1, n1, b1, t1, d1⟩ := ⟨_, rfl⟩
  have HR2 : Hid (r = false) := Lib.hid (by rw [hr]; exact HR.out)
  rw [← hr]
  clear hr HR
  go_enter Try.func64, Try.ntmps64
  go_wp2_with fail
  go_ret
  exact ⟨by rw [HR2.out]; rfl, HB.out _ _⟩
end Go.Proofs.Ytieoiklgoeclaaa
namespace Go.Proofs.Ytieoiklgoeclaaa
open Go.RowKit

set_option maxRecDepth 100000 in
set_option maxHeartbeats 4000000 in
theorem rkind_5 (w : World) (n1 : Int) (b1 : Nat) (t1 : ByteArray) (d1 : Int) (hb : b1 < 2 ^ 64) (hd : 0 ≤ d1) :
    Calls Try.prog 64 #[.agg #[.int .i64 5, .int .i64 n1, .int .u64 b1, .string t1, .int .i64 d1]] w fun e w' => e = .returned (.bool (kindR ⟨5, n1, b1, t1, d1⟩)) ∧ Below w.heap.size w w' := by
  have HB := Lib.hid (below_two w)
  obtain ⟨r, hr⟩ : ∃ r, r = kindR ⟨5, n1, b1, t1, d1⟩ := ⟨_, rfl⟩
  have HR : Hid (r = ((decide (0 ≤ n1) && decide (n1 ≤ 2147483647)) && (decide (b1 = 0) && decide (t1.toList = [])))) := Lib.hid (by rw [hr]; by_cases z2 : b1 = 0 <;> by_cases z3 : d1 = 0 <;> by_cases z4 : t1.toList = [] <;> simp [kindR, justB, nil_toList, tagIn, @eq_comm Nat 0 b1, @eq_comm Int 0 d1, @eq_comm _ [] t1.toList, z2, z3, z4])
  rw [← hr]
  clear hr
  by_cases z2 : b1 = 0 <;> by_cases z4 : t1.toList = []
  all_goals
    go_enter Try.func64, Try.ntmps64
    go_wp2_with fail
    all_goals
      go_ret
      exact ⟨by rw [HR.out]; first | (simp [z2, z4]; done) | (rename_i h; simp [z2, z4, h]; done) | (rename_i h; simp [z2, z4]; omega), HB.out _ _⟩
end Go.Proofs.Ytieoiklgoeclaaa
namespace Go.Proofs.Ytieoiklgoeclaaa
open Go.RowKit

theorem rkind_any (w : World) (x : Nd) (hb : x.bits < 2 ^ 64) (hd : 0 ≤ x.kids) :
    Calls Try.prog 64 #[.agg x.cells] w fun e w' => e = .returned (.bool (kindR x)) ∧ Below w.heap.size w w' := by
  obtain ⟨k1, n1, b1, t1, d1⟩ := x
  unfold Nd.cells
  simp only at hb hd ⊢
  by_cases h1 : k1 = 1
  · subst h1; exact rkind_1 w n1 b1 t1 d1 hb hd
  by_cases h2 : k1 = 2
  · subst h2; exact rkind_2 w n1 b1 t1 d1 hb hd
  by_cases h3 : k1 = 3
  · subst h3; exact rkind_3 w n1 b1 t1 d1 hb hd
  by_cases h4 : k1 = 4
  · subst h4; exact rkind_4 w n1 b1 t1 d1 hb hd
  by_cases h5 : k1 = 5
  · subst h5; exact rkind_5 w n1 b1 t1 d1 hb hd
  by_cases h6 : k1 = 6
  · subst h6; exact rkind_6 w n1 b1 t1 d1 hb hd
  exact rkind_o w k1 n1 b1 t1 d1 h1 h2 h3 h4 h5 h6
end Go.Proofs.Ytieoiklgoeclaaa
