/-
  TermOf (7), TermsOf (12): how great terms are; SameNodes (39), SameTerm (15).
-/
import Derived.Test.YtieoiklgoeclaaaTom
namespace Go.Proofs.Ytieoiklgoeclaaa
open Go.RowKit

def cost : List Nd → Nat
  | [] => 0
  | x :: xs => 1 + x.txt.size / 16 + cost xs
theorem cost_app : ∀ xs ys : List Nd, cost (xs ++ ys) = cost xs + cost ys
  | [], ys => by simp [cost]
  | x :: xs, ys => by simp only [List.cons_append, cost, cost_app xs ys]; omega
theorem cost_take {xs : List Nd} {k : Nat} (h : k < xs.length) : cost (xs.take (k + 1)) = cost (xs.take k) + 1 + xs[k].txt.size / 16 := by
  rw [List.take_succ_eq_append_getElem h, cost_app]
  simp only [cost]
  omega
theorem cost_len : ∀ xs : List Nd, xs.length ≤ cost xs
  | [] => Nat.zero_le _
  | x :: xs => by have := cost_len xs; simp only [List.length_cons, cost]; omega
theorem cost_txt : ∀ (xs : List Nd) (x : Nd), x ∈ xs → x.txt.size / 16 ≤ cost xs
  | [], _, h => by cases h
  | y :: ys, x, h => by
    simp only [cost]
    rcases List.mem_cons.1 h with rfl | h
    · omega
    · have := cost_txt ys x h; omega
/-- Nodes by a slice, however many. -/
def TRaw (w : World) (a : Option Addr) (xs : List Nd) : Prop := 0 < xs.length → ∃ g off, a = some ⟨g, off, none⟩ ∧ NAt w g off xs
theorem TRaw.below {B : Nat} {w w' : World} {a : Option Addr} {xs : List Nd} (h : TRaw w a xs) (hb : Below B w w') (hB : w.heap.size ≤ B) : TRaw w' a xs := fun h0 => by
  obtain ⟨g, off, h1, h2⟩ := h h0
  exact ⟨g, off, h1, h2.below hb (Nat.lt_of_lt_of_le h2.1 hB)⟩
def TxtRaw (xs : List Nd) : Prop := ∀ x ∈ xs, x.txt.size ≤ 140737488355328
set_option maxRecDepth 1000000 in
set_option maxHeartbeats 1000000 in
theorem termOf_any (w : World) (a : Option Addr) (c : Nat) (xs : List Nd) (hr : TRaw w a xs) (ht : TxtRaw xs) (hl : xs.length ≤ 140737488355328) :
    Calls Try.prog 7 #[.agg #[.slice a xs.length c], .int .i64 300] w fun e w' => ∃ r : Nat, e = .returned (.int .i64 r) ∧ (r ≤ 300 → r = cost xs) ∧ r ≤ 1000000000000000 ∧ Below w.heap.size w w' := by
  have hA : Lies (w.alloc (.cells #[.slice a xs.length c] 24)) w.heap.size #[.slice a xs.length c] 24 := Lies.new _ _ _
  have hb0 : Below w.heap.size w (w.alloc (.cells #[.slice a xs.length c] 24)) := (Below.refl _ _).alloc (Nat.le_refl _) _
  obtain ⟨n, hn⟩ : ∃ n, n = xs.length := ⟨_, rfl⟩
  rw [← hn] at hA hb0 hl ⊢
  have H := Lib.hid (And.intro hr (And.intro ht (And.intro hl hn)))
  clear hr ht hl hn
  go_enter Try.func7, Try.ntmps7
  go_upto_region 1 with fail
  generalize w.alloc (.cells #[.slice a n c] 24) = W0 at hA hb0 ⊢
  have c0 := hA.cell 0 (v := .slice a n c) rfl
  have HB := Lib.hid hb0
  clear hA hb0
  go_wp2_with fail
  go_loop [5, 6] (fun s i => ∃ k t : Nat, k ≤ n ∧ i = .int .i64 k ∧ s = .int .i64 t ∧ t = cost (xs.take k) ∧ t ≤ 1000000000000000) (fun _ i => (n - intOf i).toNat)
  case atStart => exact ⟨0, 0, by omega, by go_num, by go_num, rfl, by omega⟩
  case round =>
    obtain ⟨k, t, hk, rfl, rfl, hs, hts⟩ := hrel
    by_cases hlt : k < n
    · have q1 : (k : Int) < (n : Int) := by omega
      by_cases h3 : t ≤ 300
      · have q2 : (t : Int) ≤ 300 := by omega
        have hxl : k < xs.length := by rw [← H.out.2.2.2]; exact hlt
        obtain ⟨g, off, rfl, hN⟩ := H.out.1 (by omega)
        have hNW := hN.below HB.out hN.1
        obtain ⟨tx, htx⟩ : ∃ z, z = xs[k].txt := ⟨_, rfl⟩
        have c3 : W0.cell? ⟨g, off + k * 5 + 3, none⟩ = some (.string tx) := by rw [htx]; exact hNW.2 k hxl 3 _ rfl
        have hz : tx.size ≤ 140737488355328 := by rw [htx]; exact H.out.2.1 _ (List.getElem_mem hxl)
        have hct := cost_take hxl
        rw [← htx, ← hs] at hct
        have q0 : (0 : Int) ≤ (k : Int) := by omega
        have q3 : (k : Int) ≤ 140737488355328 := by have := H.out.2.2.1; omega
        have HC := Lib.hid (And.intro hct (And.intro hz hs))
        have q4 : (tx.size : Int) ≤ 140737488355328 := by omega
        have q5 : (0 : Int) ≤ (tx.size : Int) := by omega
        clear hN hNW htx hct hs hxl hz
        go_wp2_with fail
        have hz := HC.out.2.1
        refine ⟨⟨k + 1, t + 1 + tx.size / 16, by omega, by go_num, congrArg (Value.int .i64) (by omega), HC.out.1.symm, by omega⟩, by simp [intOf]; omega⟩
      · have q2 : ¬ (t : Int) ≤ 300 := by omega
        have HT := Lib.hid hs
        clear hs
        go_wp2_with fail
        go_ret
        exact ⟨t, rfl, fun h => by omega, hts, HB.out⟩
    · have q1 : ¬ (k : Int) < (n : Int) := by omega
      have hke : k = n := by omega
      have hz : t = cost xs := by rw [hs, hke, H.out.2.2.2, List.take_length]
      have HT := Lib.hid hz
      clear hs hz hke
      go_wp2_with fail
      go_ret
      exact ⟨t, rfl, fun _ => HT.out, hts, HB.out⟩
end Go.Proofs.Ytieoiklgoeclaaa
