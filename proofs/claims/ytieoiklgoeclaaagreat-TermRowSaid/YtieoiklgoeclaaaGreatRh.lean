/-
  The document's own: kind (64).
  The document's own: kind (64), at texts.
  The document's own: kind (64), at maps.
  The document's own: kind (64), at reals, and where there is none.
  The document's own: kind (64), at tags.
  The document's own: kind (64), of any node.
  The document's own: Fits (32), Right (33).
  The document's own: Fits (32), Right (33): the walk.
-/
import Derived.Test.YtieoiklgoeclaaaGreatRq
import Derived.Test.YtieoiklgoeclaaaGreatTp
namespace Go.Proofs.YtieoiklgoeclaaaGreat
open Go.RowKit

/-- What kind tells of a node: all of a node's own rules. -/
def kindR (x : Nd) : Bool :=
  if x.kind = 1 then justB x ⟨0, x.num, 0, ⟨#[]⟩, 0⟩
  else if x.kind = 2 then decide (x.txt.size ≤ 200) && justB x ⟨0, 0, 0, x.txt, 0⟩
  else if x.kind = 3 then decide (canonB x.bits = x.bits) && justB x ⟨0, 0, x.bits, ⟨#[]⟩, 0⟩
  else if x.kind = 4 then justB x ⟨0, 0, 0, ⟨#[]⟩, x.kids⟩
  else if x.kind = 5 then tagIn x.num && justB x ⟨0, x.num, 0, ⟨#[]⟩, x.kids⟩
  else if x.kind = 6 then decide (x.kids % 2 = 0) && justB x ⟨0, 0, 0, ⟨#[]⟩, x.kids⟩ else false
theorem below_two (w : World) (c d : Array Value) : Below w.heap.size w ((w.alloc (.cells c 36)).alloc (.cells d 36)) := ((Below.refl _ _).alloc (Nat.le_refl _) _).alloc (by simp) _
theorem nil_toList : (⟨#[]⟩ : ByteArray).toList = [] := by rw [ByteArray.toList_eq]
set_option maxRecDepth 100000 in
set_option maxHeartbeats 4000000 in
theorem rkind_1 (w : World) (n1 : Int) (b1 : Nat) (t1 : ByteArray) (d1 : Int) (hb : b1 < 2 ^ 64) (hd : 0 ≤ d1) :
    Calls Tryz.prog 43 #[.agg #[.int .i64 1, .int .i64 n1, .int .u64 b1, .string t1, .int .i64 d1]] w fun e w' => e = .returned (.bool (kindR ⟨1, n1, b1, t1, d1⟩)) ∧ Below w.heap.size w w' := by
  have HB := Lib.hid (below_two w)
  obtain ⟨r, hr⟩ : ∃ r, r = kindR ⟨1, n1, b1, t1, d1⟩ := ⟨_, rfl⟩
  have HR : Hid (r = (decide (b1 = 0) && (decide (t1.toList = []) && decide (d1 = 0)))) := Lib.hid (by rw [hr]; by_cases z1 : n1 = 0 <;> by_cases z2 : b1 = 0 <;> by_cases z3 : d1 = 0 <;> by_cases z4 : t1.toList = [] <;> simp [kindR, justB, nil_toList, tagIn, @eq_comm Nat 0 b1, @eq_comm Int 0 d1, @eq_comm Int 0 n1, @eq_comm _ [] t1.toList, z1, z2, z3, z4])
  rw [← hr]
  clear hr
  by_cases z2 : b1 = 0 <;> by_cases z3 : d1 = 0 <;> by_cases z4 : t1.toList = []
  all_goals
    go_enter Tryz.func43, Tryz.ntmps43
    go_wp2_with fail
    go_ret
    exact ⟨by rw [HR.out]; simp [z2, z3, z4], HB.out _ _⟩
set_option maxRecDepth 100000 in
set_option maxHeartbeats 4000000 in
theorem rkind_4 (w : World) (n1 : Int) (b1 : Nat) (t1 : ByteArray) (d1 : Int) (hb : b1 < 2 ^ 64) (hd : 0 ≤ d1) :
    Calls Tryz.prog 43 #[.agg #[.int .i64 4, .int .i64 n1, .int .u64 b1, .string t1, .int .i64 d1]] w fun e w' => e = .returned (.bool (kindR ⟨4, n1, b1, t1, d1⟩)) ∧ Below w.heap.size w w' := by
  have HB := Lib.hid (below_two w)
  obtain ⟨r, hr⟩ : ∃ r, r = kindR ⟨4, n1, b1, t1, d1⟩ := ⟨_, rfl⟩
  have HR : Hid (r = (decide (n1 = 0) && (decide (b1 = 0) && decide (t1.toList = [])))) := Lib.hid (by rw [hr]; by_cases z1 : n1 = 0 <;> by_cases z2 : b1 = 0 <;> by_cases z3 : d1 = 0 <;> by_cases z4 : t1.toList = [] <;> simp [kindR, justB, nil_toList, tagIn, @eq_comm Nat 0 b1, @eq_comm Int 0 d1, @eq_comm Int 0 n1, @eq_comm _ [] t1.toList, z1, z2, z3, z4])
  rw [← hr]
  clear hr
  by_cases z1 : n1 = 0 <;> by_cases z2 : b1 = 0 <;> by_cases z4 : t1.toList = []
  all_goals
    go_enter Tryz.func43, Tryz.ntmps43
    go_wp2_with fail
    go_ret
    exact ⟨by rw [HR.out]; simp [z1, z2, z4], HB.out _ _⟩
end Go.Proofs.YtieoiklgoeclaaaGreat
namespace Go.Proofs.YtieoiklgoeclaaaGreat
open Go.RowKit

set_option maxRecDepth 100000 in
set_option maxHeartbeats 4000000 in
theorem rkind_2 (w : World) (n1 : Int) (b1 : Nat) (t1 : ByteArray) (d1 : Int) (hb : b1 < 2 ^ 64) (hd : 0 ≤ d1) :
    Calls Tryz.prog 43 #[.agg #[.int .i64 2, .int .i64 n1, .int .u64 b1, .string t1, .int .i64 d1]] w fun e w' => e = .returned (.bool (kindR ⟨2, n1, b1, t1, d1⟩)) ∧ Below w.heap.size w w' := by
  have HB := Lib.hid (below_two w)
  obtain ⟨r, hr⟩ : ∃ r, r = kindR ⟨2, n1, b1, t1, d1⟩ := ⟨_, rfl⟩
  have HR : Hid (r = (decide (t1.size ≤ 200) && (decide (n1 = 0) && (decide (b1 = 0) && decide (d1 = 0))))) := Lib.hid (by rw [hr]; by_cases z1 : n1 = 0 <;> by_cases z2 : b1 = 0 <;> by_cases z3 : d1 = 0 <;> by_cases z4 : t1.toList = [] <;> simp [kindR, justB, nil_toList, tagIn, @eq_comm Nat 0 b1, @eq_comm Int 0 d1, @eq_comm Int 0 n1, @eq_comm _ [] t1.toList, z1, z2, z3, z4])
  rw [← hr]
  clear hr
  by_cases z1 : n1 = 0 <;> by_cases z2 : b1 = 0 <;> by_cases z3 : d1 = 0
  all_goals
    go_enter Tryz.func43, Tryz.ntmps43
    go_wp2_with fail
    go_ret
    exact ⟨by rw [HR.out]; first | (simp [z1, z2, z3]; done) | (simp [z1, z2, z3]; omega), HB.out _ _⟩
end Go.Proofs.YtieoiklgoeclaaaGreat
namespace Go.Proofs.YtieoiklgoeclaaaGreat
open Go.RowKit

set_option maxRecDepth 100000 in
set_option maxHeartbeats 4000000 in
theorem rkind_6 (w : World) (n1 : Int) (b1 : Nat) (t1 : ByteArray) (d1 : Int) (hb : b1 < 2 ^ 64) (hd : 0 ≤ d1) :
    Calls Tryz.prog 43 #[.agg #[.int .i64 6, .int .i64 n1, .int .u64 b1, .string t1, .int .i64 d1]] w fun e w' => e = .returned (.bool (kindR ⟨6, n1, b1, t1, d1⟩)) ∧ Below w.heap.size w w' := by
  have HB := Lib.hid (below_two w)
  obtain ⟨r, hr⟩ : ∃ r, r = kindR ⟨6, n1, b1, t1, d1⟩ := ⟨_, rfl⟩
  have HR : Hid (r = (decide (d1 % 2 = 0) && (decide (n1 = 0) && (decide (b1 = 0) && decide (t1.toList = []))))) := Lib.hid (by rw [hr]; by_cases z1 : n1 = 0 <;> by_cases z2 : b1 = 0 <;> by_cases z3 : d1 = 0 <;> by_cases z4 : t1.toList = [] <;> simp [kindR, justB, nil_toList, tagIn, @eq_comm Nat 0 b1, @eq_comm Int 0 d1, @eq_comm Int 0 n1, @eq_comm _ [] t1.toList, z1, z2, z3, z4])
  rw [← hr]
  clear hr
  have hm : d1.tmod 2 = d1 % 2 := Int.tmod_eq_emod_of_nonneg hd
  by_cases z1 : n1 = 0 <;> by_cases z2 : b1 = 0 <;> by_cases z4 : t1.toList = []
  all_goals
    go_enter Tryz.func43, Tryz.ntmps43
    go_wp2_with fail
    go_ret
    exact ⟨by rw [HR.out]; first | (simp [z1, z2, z4]; done) | (simp [z1, z2, z4]; rw [Bool.eq_iff_iff]; simp), HB.out _ _⟩
end Go.Proofs.YtieoiklgoeclaaaGreat
namespace Go.Proofs.YtieoiklgoeclaaaGreat
open Go.RowKit

set_option maxRecDepth 100000 in
set_option maxHeartbeats 4000000 in
theorem rkind_3 (w : World) (n1 : Int) (b1 : Nat) (t1 : ByteArray) (d1 : Int) (hb : b1 < 2 ^ 64) (hd : 0 ≤ d1) :
    Calls Tryz.prog 43 #[.agg #[.int .i64 3, .int .i64 n1, .int .u64 b1, .string t1, .int .i64 d1]] w fun e w' => e = .returned (.bool (kindR ⟨3, n1, b1, t1, d1⟩)) ∧ Below w.heap.size w w' := by
  have HB := Lib.hid (below_two w)
  obtain ⟨r, hr⟩ : ∃ r, r = kindR ⟨3, n1, b1, t1, d1⟩ := ⟨_, rfl⟩
  have HR : Hid (r = (decide (canonB b1 = b1) && (decide (n1 = 0) && (decide (t1.toList = []) && decide (d1 = 0))))) := Lib.hid (by rw [hr]; by_cases z1 : n1 = 0 <;> by_cases z2 : b1 = 0 <;> by_cases z3 : d1 = 0 <;> by_cases z4 : t1.toList = [] <;> simp [kindR, justB, nil_toList, tagIn, @eq_comm Nat 0 b1, @eq_comm Int 0 d1, @eq_comm Int 0 n1, @eq_comm _ [] t1.toList, z1, z2, z3, z4])
  rw [← hr]
  clear hr
  by_cases z1 : n1 = 0 <;> by_cases z3 : d1 = 0 <;> by_cases z4 : t1.toList = []
  · skip
    go_enter Tryz.func43, Tryz.ntmps43
    go_wp2_with fail
    refine (rrightB_any _ b1 hb).mono ?_
    rintro e w' ⟨rfl, rfl⟩
    go_wp2_with fail
    go_ret
    exact ⟨by rw [HR.out]; simp [z1, z3, z4], HB.out _ _⟩
  all_goals
    go_enter Tryz.func43, Tryz.ntmps43
    go_wp2_with fail
    go_ret
    exact ⟨by rw [HR.out]; simp [z1, z3, z4], HB.out _ _⟩
set_option maxRecDepth 100000 in
set_option maxHeartbeats 4000000 in
theorem rkind_o (w : World) (k1 n1 : Int) (b1 : Nat) (t1 : ByteArray) (d1 : Int) (h1 : ¬ k1 = 1) (h2 : ¬ k1 = 2) (h3 : ¬ k1 = 3) (h4 : ¬ k1 = 4) (h5 : ¬ k1 = 5) (h6 : ¬ k1 = 6) :
    Calls Tryz.prog 43 #[.agg #[.int .i64 k1, .int .i64 n1, .int .u64 b1, .string t1, .int .i64 d1]] w fun e w' => e = .returned (.bool (kindR ⟨k1, n1, b1, t1, d1⟩)) ∧ Below w.heap.size w w' := by
  have HB := Lib.hid (below_two w)
  have HR : Hid (kindR ⟨k1, n1, b1, t1, d1⟩ = false) := Lib.hid (by simp [kindR, h1, h2, h3, h4, h5, h6])
  obtain ⟨r, hr⟩ : ∃ r, r = kindR ⟨k1, n1, b1, t1, d1⟩ := ⟨_, rfl⟩
  have HR2 : Hid (r = false) := Lib.hid (by rw [hr]; exact HR.out)
  rw [← hr]
  clear hr HR
  go_enter Tryz.func43, Tryz.ntmps43
  go_wp2_with fail
  go_ret
  exact ⟨by rw [HR2.out]; rfl, HB.out _ _⟩
end Go.Proofs.YtieoiklgoeclaaaGreat
namespace Go.Proofs.YtieoiklgoeclaaaGreat
open Go.RowKit

set_option maxRecDepth 100000 in
set_option maxHeartbeats 4000000 in
theorem rkind_5 (w : World) (n1 : Int) (b1 : Nat) (t1 : ByteArray) (d1 : Int) (hb : b1 < 2 ^ 64) (hd : 0 ≤ d1) :
    Calls Tryz.prog 43 #[.agg #[.int .i64 5, .int .i64 n1, .int .u64 b1, .string t1, .int .i64 d1]] w fun e w' => e = .returned (.bool (kindR ⟨5, n1, b1, t1, d1⟩)) ∧ Below w.heap.size w w' := by
  have HB := Lib.hid (below_two w)
  obtain ⟨r, hr⟩ : ∃ r, r = kindR ⟨5, n1, b1, t1, d1⟩ := ⟨_, rfl⟩
  have HR : Hid (r = ((decide (0 ≤ n1) && decide (n1 ≤ 2147483647)) && (decide (b1 = 0) && decide (t1.toList = [])))) := Lib.hid (by rw [hr]; by_cases z2 : b1 = 0 <;> by_cases z3 : d1 = 0 <;> by_cases z4 : t1.toList = [] <;> simp [kindR, justB, nil_toList, tagIn, @eq_comm Nat 0 b1, @eq_comm Int 0 d1, @eq_comm _ [] t1.toList, z2, z3, z4])
  rw [← hr]
  clear hr
  by_cases z2 : b1 = 0 <;> by_cases z4 : t1.toList = []
  all_goals
    go_enter Tryz.func43, Tryz.ntmps43
    go_wp2_with fail
    all_goals
      go_ret
      exact ⟨by rw [HR.out]; first | (simp [z2, z4]; done) | (rename_i h; simp [z2, z4, h]; done) | (rename_i h; simp [z2, z4]; omega), HB.out _ _⟩
end Go.Proofs.YtieoiklgoeclaaaGreat
namespace Go.Proofs.YtieoiklgoeclaaaGreat
open Go.RowKit

theorem rkind_any (w : World) (x : Nd) (hb : x.bits < 2 ^ 64) (hd : 0 ≤ x.kids) :
    Calls Tryz.prog 43 #[.agg x.cells] w fun e w' => e = .returned (.bool (kindR x)) ∧ Below w.heap.size w w' := by
  obtain ⟨k1, n1, b1, t1, d1⟩ := x
  unfold Nd.cells
  simp only at hb hd ⊢
  by_cases h1 : k1 = 1
  · subst h1; exact rkind_1 w n1 b1 t1 d1 hb hd
  by_cases h2 : k1 = 2
  · subst h2; exact rkind_2 w n1 b1 t1 d1 hb hd
  by_cases h3 : k1 = 3
  · subst h3; exact rkind_3 w n1 b1 t1 d1 hb hd
  by_cases h4 : k1 = 4
  · subst h4; exact rkind_4 w n1 b1 t1 d1 hb hd
  by_cases h5 : k1 = 5
  · subst h5; exact rkind_5 w n1 b1 t1 d1 hb hd
  by_cases h6 : k1 = 6
  · subst h6; exact rkind_6 w n1 b1 t1 d1 hb hd
  exact rkind_o w k1 n1 b1 t1 d1 h1 h2 h3 h4 h5 h6
end Go.Proofs.YtieoiklgoeclaaaGreat
namespace Go.Proofs.YtieoiklgoeclaaaGreat
open Go.RowKit

theorem kindB_R (xs : List Nd) (E : Nat → Nat) (i : Nat) (x : Nd) : kindB xs E i x = (kindR x && (decide (x.kind ≠ 6) || riseB xs E (x.kids / 2).toNat (i + 1) none)) := by
  unfold kindB kindR mapB
  by_cases h6 : x.kind = 6
  · simp [h6, Bool.and_assoc]
  · simp only [h6, if_false, ne_eq, not_false_eq_true, decide_true, Bool.true_or, Bool.and_true]
theorem at_sub {xs : List Nd} {p : Nat} {n : Nd} {k : Fo} {rest : List Nd} (h : AtFo xs p n k rest) : sub xs p (p + 1 + k.len) = (Fo.cons n k .nil).flat := by
  unfold sub AtFo at *
  rw [h, show p + 1 + k.len - p = k.len + 1 by omega, List.take_succ_cons]
  simp only [Fo.flat, List.append_nil]
  rw [List.take_left' (Fo.flat_len k)]
theorem sub_words {xs : List Nd} (h : Words xs) (a b : Nat) : Words (sub xs a b) := fun x hx => h x (List.mem_of_mem_drop (List.mem_of_mem_take hx))
theorem rise_cmp {xs : List Nd} {E D : Nat → Nat} (hin : inO xs = true) (hl : Laid (ksOf xs) xs.length E D) (hw : Words xs) {b p : Nat} (hb : b < xs.length) (hp : p < xs.length) :
    ∃ n k r n' k' r', AtFo xs b n k r ∧ AtFo xs p n' k' r' ∧ (aheadR (sub xs b (E b)) (sub xs p (E p)) 0 1).getD 0 = (Fo.cons n k .nil).cmp (.cons n' k' .nil) := by
  obtain ⟨x0, K, hxs⟩ := tree_fo hin
  have hg : GoodL xs E D 0 := by
    rw [hxs] at hl ⊢
    exact laid_good hl
  have hall : ∀ i, i < xs.length → ∃ n k r, AtFo xs i n k r := fun i hi => by
    rw [hxs] at hi ⊢
    have := fo_at (.cons x0 K .nil) [] i (by rw [Fo.flat_len] at hi; exact hi)
    simpa using this
  obtain ⟨n, k, r, h1⟩ := hall b hb
  obtain ⟨n', k', r', h2⟩ := hall p hp
  refine ⟨n, k, r, n', k', r', h1, h2, ?_⟩
  have e1 := (hg b (Nat.zero_le _) _ _ _ h1).1
  have e2 := (hg p (Nat.zero_le _) _ _ _ h2).1
  have s1 := at_sub h1
  have s2 := at_sub h2
  rw [← e1] at s1
  rw [← e2] at s2
  have w1 := sub_words hw b (E b)
  have w2 := sub_words hw p (E p)
  rw [s1] at w1 ⊢
  rw [s2] at w2 ⊢
  rw [ahead_one _ _ w1 w2 rfl rfl]
  rfl
end Go.Proofs.YtieoiklgoeclaaaGreat
namespace Go.Proofs.YtieoiklgoeclaaaGreat
open Go.RowKit

theorem fitsB_laid {xs : List Nd} {E D : Nat → Nat} {most deep : Int} (hl : Laid (ksOf xs) xs.length E D) : fitsB xs most deep = (decide ((xs.length : Int) ≤ most) && (decide ((deepT xs : Int) ≤ deep) && kindsB xs E)) := by
  have h1 : inO xs = true := inOrd_laid hl
  have h2 : endsT xs = E := by unfold endsT; rw [layOf_laid hl]
  unfold fitsB
  rw [h1, h2, Bool.true_and]
theorem fitsB_none {xs : List Nd} {most deep : Int} (hl : layOf (ksOf xs) xs.length = none) : fitsB xs most deep = false := by
  have h1 : inO xs = false := inOrd_none hl
  unfold fitsB
  rw [h1, Bool.false_and, Bool.and_false]
theorem kindR_even {x : Nd} (h : kindR x = true) (h6 : x.kind = 6) : x.kids % 2 = 0 := by
  unfold kindR at h
  rw [h6] at h
  simp at h
  omega
def MapK (xs : List Nd) (E : Nat → Nat) (n j z p : Nat) (d1 : Int) (RB : Bool) : Prop := ∃ rem : Nat, d1 = ((2 * (z + rem + 1) : Nat) : Int) ∧ steps E n (2 * (rem + 1)) p = some (E j) ∧ RB = riseB xs E rem (E (E p)) (some p)
set_option maxRecDepth 100000 in
set_option maxHeartbeats 4000000 in
theorem rfits_any (w : World) (a : Option Addr) (nc : Nat) (xs : List Nd) (most deep : Int) (hx : TW w a xs) :
    Calls Tryz.prog 21 #[.agg #[.slice a xs.length nc], .int .i64 most, .int .i64 deep] w fun e w' => e = .returned (.bool (fitsB xs most deep)) ∧ Below w.heap.size w w' := by
  obtain ⟨n, hn⟩ : ∃ n, n = xs.length := ⟨_, rfl⟩
  obtain ⟨R, hR⟩ : ∃ R, R = fitsB xs most deep := ⟨_, rfl⟩
  obtain ⟨dT, hdT⟩ : ∃ d, d = deepT xs := ⟨_, rfl⟩
  rw [← hR, ← hn]
  have hA : Lies (w.alloc (.cells #[.slice a n nc] 27)) w.heap.size #[.slice a n nc] 27 := Lies.new _ _ _
  have hb0 : Below w.heap.size w (w.alloc (.cells #[.slice a n nc] 27)) := (Below.refl _ _).alloc (Nat.le_refl _) _
  have hle : n ≤ 1000000 := by rw [hn]; exact hx.tat.2.1
  have n1 : (n : Int) ≤ 1000000 := by omega
  have n0 : (0 : Int) ≤ (n : Int) := by omega
  have he : ∀ V, Below w.heap.size w V → Calls Tryz.prog 40 #[.agg #[.slice a n nc]] V (EndsR V n (ksOf xs)) := fun V hV => by
    rw [hn]; exact ends_any V a xs.length nc (ksOf xs) hx.tat.2.1 (hx.below hV).tat.ks
  have hd : ∀ V, Below w.heap.size w V → Calls Tryz.prog 19 #[.agg #[.slice a n nc]] V fun e w' => e = .returned (.int .i64 (dT : Int)) ∧ Below V.heap.size V w' := fun V hV => by
    rw [hn, hdT]; exact rdeep_any V a xs.length nc (ksOf xs) hx.tat.2.1 (hx.below hV).tat.ks
  have H := Lib.hid (And.intro hx (And.intro hn (And.intro hR (And.intro hdT (And.intro he hd)))))
  clear hx hn hR hdT he hd hle
  go_enter Tryz.func21, Tryz.ntmps21
  go_upto_region 1 with fail
  generalize w.alloc (.cells #[.slice a n nc] 27) = W0 at hA hb0 ⊢
  have c0 := hA.cell 0 (v := .slice a n nc) rfl
  have HA := Lib.hid (And.intro hA hb0)
  clear hA hb0
  go_wp2_with fail
  refine (H.out.2.2.2.2.1 _ HA.out.2).mono ?_
  rintro e w2 (⟨E, D, gE, hl, rfl, hgE, hzE, hb⟩ | ⟨hl, x, m, c, rfl, hb⟩)
  · rw [H.out.2.1] at hl
    have hR2 := fitsB_laid (most := most) (deep := deep) hl
    rw [← H.out.2.1, ← H.out.2.2.1, ← H.out.2.2.2.1] at hR2
    have hw2 := HA.out.2.trans (hb.mono HA.out.2.size)
    have c2 := (HA.out.1.below hb HA.out.1.lt).cell 0 (v := .slice a n nc) rfl
    have H2 := Lib.hid (And.intro hl (And.intro hzE (And.intro hb (And.intro hw2 hR2))))
    clear hl hzE hb hw2 hR2 c0 hgE
    by_cases hm : (n : Int) ≤ most
    · have hm2 : ¬ most < (n : Int) := by omega
      go_wp2_with fail
      refine (H.out.2.2.2.2.2 _ H2.out.2.2.2.1).mono ?_
      rintro e w3 ⟨rfl, hb3⟩
      have hw3 := H2.out.2.2.2.1.trans (hb3.mono H2.out.2.2.2.1.size)
      have hb03 := H2.out.2.2.1.trans (hb3.mono H2.out.2.2.1.size)
      have hz3 := H2.out.2.1.below hb3 H2.out.2.1.lt
      by_cases hdp : (dT : Int) ≤ deep
      · have hdp2 : ¬ deep < (dT : Int) := by omega
        have hRK : R = kindsB xs E := by rw [H2.out.2.2.2.2, decide_eq_true hm, decide_eq_true hdp, Bool.true_and, Bool.true_and]
        have H3 := Lib.hid (And.intro hw3 (And.intro hb03 (And.intro hz3 hRK)))
        clear hw3 hb03 hz3 hRK hb3 c2
        go_upto_region 5 with fail
        go_loopw [9] (fun i W => ∃ j : Nat, j ≤ n ∧ i = .int .i64 j ∧ (∀ q (hq : q < xs.length), q < j → kindB xs E q xs[q] = true) ∧ Below w3.heap.size w3 W) (fun i _ => (n - intOf i).toNat)
        case atStart => exact ⟨0, by omega, by go_num, fun q hq h => absurd h (Nat.not_lt_zero _), Below.refl _ _⟩
        case round =>
          obtain ⟨j, hj, rfl, hall, hbr⟩ := hrel
          have hbw := H3.out.1.trans (hbr.mono H3.out.1.size)
          have hb0r := H3.out.2.1.trans (hbr.mono H3.out.2.1.size)
          have c0 := (HA.out.1.below hb0r HA.out.1.lt).cell 0 (v := .slice a n nc) rfl
          by_cases hlt : j < n
          · have hjx : j < xs.length := by rw [← H.out.2.1]; exact hlt
            obtain ⟨g, off, ea, hN⟩ := (H.out.1.below hbw).tat.1 (by omega)
            subst ea
            have hkin := kidsIn_of H2.out.1 H.out.1.tat.2.1 _ (List.getElem_mem hjx)
            have hwd := H.out.1.words _ (List.getElem_mem hjx)
            have hcs := hN.2 j hjx
            have hst := (ends_of H2.out.1).kids j hjx
            have hkc := kindB_R xs E j xs[j]
            obtain ⟨x, ex⟩ : ∃ x, x = xs[j] := ⟨_, rfl⟩
            rw [← ex] at hkin hwd hcs hst hkc
            obtain ⟨r, hr⟩ : ∃ r, r = kindR x := ⟨_, rfl⟩
            have hkd : ∀ V, Calls Tryz.prog 43 #[.agg x.cells] V fun e w' => e = .returned (.bool r) ∧ Below V.heap.size V w' := fun V => by rw [hr]; exact rkind_any V x hwd hkin.1
            obtain ⟨k1, m1, b1, t1, d1⟩ := x
            unfold Nd.cells at hcs hkd
            simp only at hkin hwd hst hkc
            have y0 : wr.cell? ⟨g, off + j * 5, none⟩ = some (.int .i64 k1) := hcs 0 _ rfl
            have y1 : wr.cell? ⟨g, off + j * 5 + 1, none⟩ = some (.int .i64 m1) := hcs 1 _ rfl
            have y2 : wr.cell? ⟨g, off + j * 5 + 2, none⟩ = some (.int .u64 b1) := hcs 2 _ rfl
            have y3 : wr.cell? ⟨g, off + j * 5 + 3, none⟩ = some (.string t1) := hcs 3 _ rfl
            have y4 : wr.cell? ⟨g, off + j * 5 + 4, none⟩ = some (.int .i64 d1) := hcs 4 _ rfl
            have q0 : (0 : Int) ≤ (j : Int) := by omega
            have q1 : (j : Int) < (n : Int) := by omega
            have e0 := hkin.1
            have e1 := hkin.2
            have HJ := Lib.hid (And.intro hall (And.intro hbr (And.intro hst (And.intro hkc (And.intro hr (And.intro ex hjx))))))
            have HKD := Lib.hid hkd
            clear hall hbr hst hkc hr ex hkd hcs hN hbw hb0r hkin hwd hlt
            go_upto_region 8 with fail
            have hQ : Lies (wr.alloc (.cells #[.int .i64 k1, .int .i64 m1, .int .u64 b1, .string t1, .int .i64 d1] 36)) wr.heap.size #[.int .i64 k1, .int .i64 m1, .int .u64 b1, .string t1, .int .i64 d1] 36 := Lies.new _ _ _
            have hb4 : Below wr.heap.size wr (wr.alloc (.cells #[.int .i64 k1, .int .i64 m1, .int .u64 b1, .string t1, .int .i64 d1] 36)) := (Below.refl _ _).alloc (Nat.le_refl _) _
            generalize wr.alloc (.cells #[.int .i64 k1, .int .i64 m1, .int .u64 b1, .string t1, .int .i64 d1] 36) = W4 at hQ hb4 ⊢
            clear y0 y1 y2 y3 y4 c0
            have y0 := hQ.cell 0 (v := .int .i64 k1) rfl
            have y1 := hQ.cell 1 (v := .int .i64 m1) rfl
            have y2 := hQ.cell 2 (v := .int .u64 b1) rfl
            have y3 := hQ.cell 3 (v := .string t1) rfl
            have y4 := hQ.cell 4 (v := .int .i64 d1) rfl
            have H4 := Lib.hid (And.intro hQ (HJ.out.2.1.trans (hb4.mono HJ.out.2.1.size)))
            clear hQ hb4
            go_wp2_with fail
            refine (HKD.out _).mono ?_
            rintro e w5 ⟨rfl, hb5⟩
            clear y0 y1 y2 y3 y4
            cases r with
            | false =>
              have hRf : R = false := by
                rw [H3.out.2.2.2]
                refine kindsB_false j HJ.out.2.2.2.2.2.2 ?_
                rw [← HJ.out.2.2.2.2.2.1, HJ.out.2.2.2.1, ← HJ.out.2.2.2.2.1, Bool.false_and]
              have HF := Lib.hid (And.intro hRf (H3.out.1.trans ((H4.out.2.trans (hb5.mono H4.out.2.size)).mono H3.out.1.size)))
              clear hRf hb5
              go_wp2_with fail
              go_ret
              exact ⟨by rw [HF.out.1]; rfl, HF.out.2⟩
            | true =>
              obtain ⟨RB, hRB⟩ : ∃ RB, RB = riseB xs E (d1 / 2).toNat (j + 1) none := ⟨_, rfl⟩
              have hQ5 := H4.out.1.below hb5 H4.out.1.lt
              have hb35 := H4.out.2.trans (hb5.mono H4.out.2.size)
              have hev : k1 = 6 → d1 % 2 = 0 := fun h6 => kindR_even HJ.out.2.2.2.2.1.symm h6
              have hkb : kindB xs E j (xs[j]'(HJ.out.2.2.2.2.2.2)) = (decide (k1 ≠ 6) || RB) := by
                rw [← HJ.out.2.2.2.2.2.1, HJ.out.2.2.2.1, ← HJ.out.2.2.2.2.1, Bool.true_and, hRB]
              have hnM : ¬ (k1 = 6 ∧ 2 < d1) → kindB xs E j (xs[j]'(HJ.out.2.2.2.2.2.2)) = true := fun hM => by
                rw [hkb]
                by_cases h6 : k1 = 6
                · have h2 := hev h6
                  have h3 : (d1 / 2).toNat = 0 ∨ (d1 / 2).toNat = 1 := by omega
                  rw [hRB]
                  rcases h3 with h3 | h3 <;> rw [h3] <;> simp [riseB]
                · simp [h6]
              have hM0 : k1 = 6 ∧ 2 < d1 → MapK xs E n j 0 (j + 1) d1 RB := fun ⟨h6, h2⟩ => by
                have h3 := hev h6
                obtain ⟨kd, hkd⟩ : ∃ kd : Nat, d1 = ((2 * (kd + 1) : Nat) : Int) := ⟨(d1 / 2).toNat - 1, by omega⟩
                refine ⟨kd, by rw [hkd, Nat.zero_add], ?_, ?_⟩
                · have := HJ.out.2.2.1.2
                  rw [hkd, Int.toNat_natCast, ← H.out.2.1] at this
                  exact this
                · rw [hRB, hkd, show (((2 * (kd + 1) : Nat) : Int) / 2).toNat = kd + 1 by omega]
                  simp [riseB]
              have H5 := Lib.hid (And.intro hQ5 (And.intro hb35 (And.intro hkb (And.intro hnM hM0))))
              clear hQ5 hb35 hkb hnM hM0 hev hRB hb5
              go_upto_region 12 with fail
              go_loopw [11, 12] (fun p c W => ∃ (z c0 p0 : Nat), p = .int .i64 p0 ∧ c = .int .i64 c0 ∧ c0 = 2 * z ∧ (c0 : Int) ≤ 1000000 ∧ (z = 0 ∨ (k1 = 6 ∧ 2 < d1)) ∧ (k1 = 6 ∧ 2 < d1 → MapK xs E n j z p0 d1 RB) ∧ Below w5.heap.size w5 W) (fun _ c _ => (d1 - intOf c).toNat)
              case atStart => exact ⟨0, 0, j + 1, by go_num, by go_num, rfl, by omega, .inl rfl, H5.out.2.2.2.2, Below.refl _ _⟩
              case round =>
                obtain ⟨z, c1, p, rfl, rfl, hc1, hc2, hz, hmk, hb6⟩ := hrel
                have hQ6 := H5.out.1.below hb6 H5.out.1.lt
                have hb36 := H5.out.2.1.trans (hb6.mono H5.out.2.1.size)
                have y0 := hQ6.cell 0 (v := .int .i64 k1) rfl
                have y4 := hQ6.cell 4 (v := .int .i64 d1) rfl
                have q2 : (0 : Int) ≤ (c1 : Int) := by omega
                by_cases hM : k1 = 6 ∧ 2 < d1
                · obtain ⟨rem, hd1, hst, hrb⟩ := hmk hM
                  have h6 := hM.1
                  cases rem with
                  | zero =>
                    have hk : kindB xs E j (xs[j]'(HJ.out.2.2.2.2.2.2)) = true := by rw [H5.out.2.2.1, hrb]; simp [riseB]
                    have hnx : ∀ q (hq : q < xs.length), q < j + 1 → kindB xs E q xs[q] = true := fun q hq hq2 => by
                      by_cases e : q = j
                      · subst e; exact hk
                      · exact HJ.out.1 q hq (by omega)
                    have q3 : ¬ (c1 : Int) + 2 < d1 := by omega
                    have q3b : decide ((c1 : Int) + 2 < d1) = false := decide_eq_false q3
                    have HX := Lib.hid (And.intro hnx hb36)
                    clear hk hnx hb36 hQ6 hst hrb hd1 hmk hz hM h6 hb6 hc1
                    go_wp2_with fail
                    exact ⟨⟨j + 1, by omega, by go_num, HX.out.1, HX.out.2⟩, by simp [intOf]; omega⟩
                  | succ rem =>
                    obtain ⟨s1, s2, s3⟩ := steps_two (m := 2 * (rem + 1)) (by rw [show 2 * (rem + 1) + 2 = 2 * (rem + 1 + 1) by omega]; exact hst)
                    obtain ⟨s4, s5, -⟩ := steps_two (m := 2 * rem) (by rw [show 2 * rem + 2 = 2 * (rem + 1) by omega]; exact s3)
                    have hn := H.out.2.1
                    have hi1 : inO xs = true := inOrd_laid H2.out.1
                    obtain ⟨n2, k2, r2, n3, k3, r3, at2, at3, hcmp⟩ := rise_cmp hi1 H2.out.1 H.out.1.words (b := p) (p := E (E p)) (by omega) (by omega)
                    have hbw6 := H3.out.1.trans (hb36.mono H3.out.1.size)
                    have hz6 := H3.out.2.2.1.below hb36 H3.out.2.2.1.lt
                    have r1 := hz6.cell p (iv_get n _ p s1)
                    have r2' := hz6.cell (E p) (iv_get n _ (E p) s2)
                    obtain ⟨C, hC⟩ : ∃ C, C = (Fo.cons n2 k2 .nil).cmp (.cons n3 k3 .nil) := ⟨_, rfl⟩
                    obtain ⟨ep, hep⟩ : ∃ e, e = E p := ⟨_, rfl⟩
                    rw [← hep] at r1 r2'
                    obtain ⟨eep, heep⟩ : ∃ e, e = E ep := ⟨_, rfl⟩
                    rw [← heep] at r2'
                    have hor : ∀ V, Below wr.heap.size wr V → Calls Tryz.prog 44 #[.agg #[.slice (some ⟨g, off, none⟩) n nc], .int .i64 p, .agg #[.slice (some ⟨g, off, none⟩) n nc], .int .i64 eep, .slice (some ⟨gE, 0, none⟩) n n, .slice (some ⟨gE, 0, none⟩) n n] V fun e w' => e = .returned (.int .i64 C) ∧ Below V.heap.size V w' := fun V hV => by
                      have o1 := ordIn_of nc (H.out.1.below (hbw6.trans (hV.mono hbw6.size))) H2.out.1 (by rw [← hn]; exact hz6.below hV hz6.lt)
                      rw [hC, heep, hep, hn]
                      exact rord_at (k2.len + 1) V _ _ nc nc xs xs gE gE E E p (E (E p)) n2 n3 k2 k3 r2 r3 (Nat.lt_succ_self _) o1 o1 at2 at3
                    have hrb2 : RB = (decide (C < 0) && riseB xs E rem (E (E (E (E p)))) (some (E (E p)))) := by
                      rw [hrb]
                      simp only [riseB]
                      rw [hcmp, hC]
                    have hc0 : (HA.out.1.below (H3.out.2.1.trans (hb36.mono H3.out.2.1.size)) HA.out.1.lt).cell 0 (v := .slice (some ⟨g, off, none⟩) n nc) rfl = (HA.out.1.below (H3.out.2.1.trans (hb36.mono H3.out.2.1.size)) HA.out.1.lt).cell 0 (v := .slice (some ⟨g, off, none⟩) n nc) rfl := rfl
                    have c0 := (HA.out.1.below (H3.out.2.1.trans (hb36.mono H3.out.2.1.size)) HA.out.1.lt).cell 0 (v := .slice (some ⟨g, off, none⟩) n nc) rfl
                    have q3 : (c1 : Int) + 2 < d1 := by omega
                    have q4 : (p : Int) < (n : Int) := by omega
                    have q5 : (ep : Int) < (n : Int) := by omega
                    have q6 : (0 : Int) ≤ (p : Int) := by omega
                    have q7 : (0 : Int) ≤ (ep : Int) := by omega
                    have hc3 : ((c1 + 2 : Nat) : Int) ≤ 1000000 := by omega
                    have HX := Lib.hid (And.intro hor (And.intro hrb2 (And.intro hb6 (And.intro s3 (And.intro hd1 (And.intro hc1 (And.intro hM (And.intro hc3 (And.intro hep heep)))))))))
                    have HY := Lib.hid hb36
                    subst h6
                    clear hc0 hor hrb2 hb6 s3 hd1 hc1 hM hc3 hep heep hb36 hQ6 hst hrb hmk hz hn hbw6 hz6 s1 s2 s4 s5 hC hcmp at2 at3 hi1
                    go_upto_region 15 with fail
                    clear y0 y4 r1 r2'
                    go_wp2_with fail
                    refine (HX.out.1 _ (Below.refl _ _)).mono ?_
                    rintro e w7 ⟨rfl, hb7⟩
                    clear c0
                    have hb7' := HX.out.2.2.1.trans (hb7.mono HX.out.2.2.1.size)
                    by_cases hC0 : C < 0
                    · have hC1 : ¬ (0 : Int) ≤ C := by omega
                      have hnext : MapK xs E n j (z + 1) eep d1 RB := by
                        refine ⟨rem, by rw [HX.out.2.2.2.2.1]; congr 1; omega, ?_, ?_⟩
                        · rw [HX.out.2.2.2.2.2.2.2.2.2, HX.out.2.2.2.2.2.2.2.2.1]; exact HX.out.2.2.2.1
                        · rw [HX.out.2.1, decide_eq_true hC0, Bool.true_and, HX.out.2.2.2.2.2.2.2.2.2, HX.out.2.2.2.2.2.2.2.2.1]
                      have HN := Lib.hid (And.intro hnext hb7')
                      clear hnext hb7' hb7
                      go_wp2_with fail
                      exact ⟨⟨z + 1, c1 + 2, eep, by go_num, by go_num, by have := HX.out.2.2.2.2.2.1; omega, HX.out.2.2.2.2.2.2.2.1, .inr HX.out.2.2.2.2.2.2.1, fun _ => HN.out.1, HN.out.2⟩, by simp [intOf]; omega⟩
                    · have hC1 : (0 : Int) ≤ C := by omega
                      have hRf : R = false := by
                        rw [H3.out.2.2.2]
                        refine kindsB_false j HJ.out.2.2.2.2.2.2 ?_
                        rw [H5.out.2.2.1, HX.out.2.1, decide_eq_false hC0, Bool.false_and]
                        simp [HX.out.2.2.2.2.2.2.1.1]
                      have HN := Lib.hid (And.intro hRf (H3.out.1.trans ((H5.out.2.1.trans (hb7'.mono H5.out.2.1.size)).mono H3.out.1.size)))
                      clear hRf hb7' hb7 hC0
                      go_wp2_with fail
                      go_ret
                      exact ⟨by rw [HN.out.1]; rfl, HN.out.2⟩
                · have hz0 : z = 0 := by rcases hz with h | h; exact h; exact absurd h hM
                  have hc10 : c1 = 0 := by omega
                  have hk := H5.out.2.2.2.1 hM
                  have hnx : ∀ q (hq : q < xs.length), q < j + 1 → kindB xs E q xs[q] = true := fun q hq hq2 => by
                    by_cases e : q = j
                    · subst e; exact hk
                    · exact HJ.out.1 q hq (by omega)
                  have HX := Lib.hid (And.intro hnx hb36)
                  subst hc10
                  clear hk hnx hb36 hQ6 hmk hz hb6 hc1 hz0
                  by_cases h2 : 2 < d1
                  · have h6 : ¬ k1 = 6 := fun h => hM ⟨h, h2⟩
                    have q3 : (0 : Int) + 2 < d1 := by omega
                    have q4 : ((k1 == 6) : Bool) = false := by simp [h6]
                    clear hM h6
                    go_wp2_with fail
                    exact ⟨⟨j + 1, by omega, by go_num, HX.out.1, HX.out.2⟩, by simp [intOf]; omega⟩
                  · have q3 : ¬ (0 : Int) + 2 < d1 := by omega
                    have q3b : decide ((2 : Int) < d1) = false := decide_eq_false h2
                    clear hM
                    go_wp2_with fail
                    exact ⟨⟨j + 1, by omega, by go_num, HX.out.1, HX.out.2⟩, by simp [intOf]; omega⟩
          · have hRt : R = true := by
              rw [H3.out.2.2.2]
              exact kindsB_true fun i hi => hall i hi (by have := H.out.2.1; omega)
            have q1 : ¬ (j : Int) < (n : Int) := by omega
            have q1b : decide (j < n) = false := decide_eq_false (by omega)
            have HF := Lib.hid (And.intro hRt hbw)
            clear hRt hbw hall hbr hb0r hlt
            go_wp2_with fail
            go_ret
            exact ⟨by rw [HF.out.1]; rfl, HF.out.2⟩
      · have hdp2 : deep < (dT : Int) := by omega
        have hRf : R = false := by rw [H2.out.2.2.2.2, decide_eq_false hdp, Bool.false_and, Bool.and_false]
        have HF := Lib.hid (And.intro hRf hw3)
        clear hRf hw3 hb03 hz3 hb3 c2
        go_wp2_with fail
        go_ret
        exact ⟨by rw [HF.out.1]; rfl, HF.out.2⟩
    · have hm2 : most < (n : Int) := by omega
      have hRf : R = false := by rw [H2.out.2.2.2.2, decide_eq_false hm, Bool.false_and]
      have HF := Lib.hid (And.intro hRf H2.out.2.2.2.1)
      clear hRf
      go_wp2_with fail
      go_ret
      exact ⟨by rw [HF.out.1]; rfl, HF.out.2⟩
  · rw [H.out.2.1] at hl
    have hRf : R = false := by rw [H.out.2.2.1]; exact fitsB_none hl
    have HF := Lib.hid (And.intro hRf (HA.out.2.trans (hb.mono HA.out.2.size)))
    have c2 := (HA.out.1.below hb HA.out.1.lt).cell 0 (v := .slice a n nc) rfl
    clear hl hRf hb c0
    go_wp2_with fail
    go_ret
    exact ⟨by rw [HF.out.1]; rfl, HF.out.2⟩
end Go.Proofs.YtieoiklgoeclaaaGreat
