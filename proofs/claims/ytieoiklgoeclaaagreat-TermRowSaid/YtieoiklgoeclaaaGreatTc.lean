/-
  Comparisons, and the first that is not 0.
-/
import Derived.Test.YtieoiklgoeclaaaGreatFOrder
import Derived.Laws.IdiomStrings
namespace Go.Proofs.YtieoiklgoeclaaaGreat
open Go.RowKit

theorem cmpnanN_any (x : Int) (w : World) : Calls Tryz.prog 62 #[.int .i64 x] w fun e w' => e = .returned (.bool false) ∧ w = w' := by
  have h : (x != x) = false := by simp
  go_enter Tryz.func62, Tryz.ntmps62
  go_wp2
  go_ret
  exact ⟨rfl, rfl⟩
theorem compareN_any (w : World) (x y : Int) : Calls Tryz.prog 39 #[.int .i64 x, .int .i64 y] w fun e w' => e = .returned (.int .i64 (cmpI x y)) ∧ w = w' := by
  have c1 := cmpnanN_any x w
  have c2 := cmpnanN_any y w
  obtain ⟨m, hm⟩ : ∃ m, m = cmpI x y := ⟨_, rfl⟩
  rw [← hm]
  unfold cmpI at hm
  by_cases h1 : x < y
  · rw [if_pos h1] at hm
    have HM := Lib.hid hm
    clear hm
    go_enter Tryz.func39, Tryz.ntmps39
    go_wp2_with fail
    refine c1.mono ?_
    rintro e w' ⟨rfl, rfl⟩
    go_wp2_with fail
    refine c2.mono ?_
    rintro e w' ⟨rfl, rfl⟩
    clear c1 c2
    go_wp2_with fail
    go_ret
    exact ⟨ret_i HM.out.symm, rfl⟩
  · rw [if_neg h1] at hm
    by_cases h2 : y < x
    · rw [if_pos h2] at hm
      have HM := Lib.hid hm
      clear hm
      go_enter Tryz.func39, Tryz.ntmps39
      go_wp2_with fail
      refine c1.mono ?_
      rintro e w' ⟨rfl, rfl⟩
      go_wp2_with fail
      refine c2.mono ?_
      rintro e w' ⟨rfl, rfl⟩
      clear c1 c2
      go_wp2_with fail
      go_ret
      exact ⟨ret_i HM.out.symm, rfl⟩
    · rw [if_neg h2] at hm
      have HM := Lib.hid hm
      clear hm
      go_enter Tryz.func39, Tryz.ntmps39
      go_wp2_with fail
      refine c1.mono ?_
      rintro e w' ⟨rfl, rfl⟩
      go_wp2_with fail
      refine c2.mono ?_
      rintro e w' ⟨rfl, rfl⟩
      clear c1 c2
      go_wp2_with fail
      go_ret
      exact ⟨ret_i HM.out.symm, rfl⟩
theorem cmpnanK_any (x : Int) (w : World) : Calls Tryz.prog 73 #[.int .i64 x] w fun e w' => e = .returned (.bool false) ∧ w = w' := by
  have h : (x != x) = false := by simp
  go_enter Tryz.func73, Tryz.ntmps73
  go_wp2
  go_ret
  exact ⟨rfl, rfl⟩
theorem compareK_any (w : World) (x y : Int) : Calls Tryz.prog 58 #[.int .i64 x, .int .i64 y] w fun e w' => e = .returned (.int .i64 (cmpI x y)) ∧ w = w' := by
  have c1 := cmpnanK_any x w
  have c2 := cmpnanK_any y w
  obtain ⟨m, hm⟩ : ∃ m, m = cmpI x y := ⟨_, rfl⟩
  rw [← hm]
  unfold cmpI at hm
  by_cases h1 : x < y
  · rw [if_pos h1] at hm
    have HM := Lib.hid hm
    clear hm
    go_enter Tryz.func58, Tryz.ntmps58
    go_wp2_with fail
    refine c1.mono ?_
    rintro e w' ⟨rfl, rfl⟩
    go_wp2_with fail
    refine c2.mono ?_
    rintro e w' ⟨rfl, rfl⟩
    clear c1 c2
    go_wp2_with fail
    go_ret
    exact ⟨ret_i HM.out.symm, rfl⟩
  · rw [if_neg h1] at hm
    by_cases h2 : y < x
    · rw [if_pos h2] at hm
      have HM := Lib.hid hm
      clear hm
      go_enter Tryz.func58, Tryz.ntmps58
      go_wp2_with fail
      refine c1.mono ?_
      rintro e w' ⟨rfl, rfl⟩
      go_wp2_with fail
      refine c2.mono ?_
      rintro e w' ⟨rfl, rfl⟩
      clear c1 c2
      go_wp2_with fail
      go_ret
      exact ⟨ret_i HM.out.symm, rfl⟩
    · rw [if_neg h2] at hm
      have HM := Lib.hid hm
      clear hm
      go_enter Tryz.func58, Tryz.ntmps58
      go_wp2_with fail
      refine c1.mono ?_
      rintro e w' ⟨rfl, rfl⟩
      go_wp2_with fail
      refine c2.mono ?_
      rintro e w' ⟨rfl, rfl⟩
      clear c1 c2
      go_wp2_with fail
      go_ret
      exact ⟨ret_i HM.out.symm, rfl⟩

theorem cmpnanS_any (x : ByteArray) (w : World) : Calls Tryz.prog 79 #[.string x] w fun e w' => e = .returned (.bool false) ∧ w = w' := by
  go_enter Tryz.func79, Tryz.ntmps79
  go_wp2
  go_ret
  exact ⟨rfl, rfl⟩
def cmpS (x y : ByteArray) : Int := if Op.bytesLess x.toList y.toList = true then -1 else if (x.toList == y.toList) = true then 0 else 1
set_option maxHeartbeats 400000 in
theorem compareS_any (w : World) (x y : ByteArray) : Calls Tryz.prog 61 #[.string x, .string y] w fun e w' => e = .returned (.int .i64 (cmpS x y)) ∧ w = w' := by
  have c1 := cmpnanS_any x w
  have c2 := cmpnanS_any y w
  obtain ⟨m, hm⟩ : ∃ m, m = cmpS x y := ⟨_, rfl⟩
  rw [← hm]
  unfold cmpS at hm
  have HM := Lib.hid hm
  clear hm
  go_enter Tryz.func61, Tryz.ntmps61
  go_wp2_with fail
  refine c1.mono ?_
  rintro e w' ⟨rfl, rfl⟩
  go_wp2_with fail
  refine c2.mono ?_
  rintro e w' ⟨rfl, rfl⟩
  clear c1 c2
  go_wp2_with fail
  all_goals (go_ret; have hm := HM.out; exact ⟨ret_i (by rw [hm]; simp_all), rfl⟩)
/-- The first that is not 0. -/
def firstNZ : List Int → Int
  | [] => 0
  | x :: l => if x = 0 then firstNZ l else x
theorem firstNZ_at : ∀ (xs : List Int) (k : Nat), (∀ j, j < k → xs.getD j 0 = 0) → k < xs.length → xs.getD k 0 ≠ 0 → firstNZ xs = xs.getD k 0
  | [], k, _, h, _ => by simp at h
  | x :: l, 0, _, _, h => by simp at h ⊢; simp [firstNZ, h]
  | x :: l, k + 1, h0, h1, h2 => by
    have hx : x = 0 := by have := h0 0 (by omega); simpa using this
    have ih := firstNZ_at l k (fun j hj => by have := h0 (j + 1) (by omega); simpa using this) (by simpa using h1) (by simpa using h2)
    unfold firstNZ
    rw [if_pos hx, ih]
    simp
theorem firstNZ_none : ∀ (xs : List Int), (∀ j, j < xs.length → xs.getD j 0 = 0) → firstNZ xs = 0
  | [], _ => rfl
  | x :: l, h => by
    have hx : x = 0 := by have := h 0 (by simp); simpa using this
    unfold firstNZ
    rw [if_pos hx, firstNZ_none l fun j hj => by have := h (j + 1) (by simp; omega); simpa using this]
theorem or_any (xs : List Int) (g c : Nat) (w : World) (hc : ∀ j, j < xs.length → w.cell? ⟨g, j, none⟩ = some (.int .i64 (xs.getD j 0))) (hl : xs.length ≤ 100) :
    Calls Tryz.prog 57 #[.slice (some ⟨g, 0, none⟩) xs.length c] w fun e w' => e = .returned (.int .i64 (firstNZ xs)) ∧ w = w' := by
  have HC := Lib.hid hc
  clear hc
  go_enter Tryz.func57, Tryz.ntmps57
  go_wp2_with fail
  go_loop [8] (fun i => ∃ k : Nat, k ≤ xs.length ∧ i = .int .i64 k ∧ ∀ j, j < k → xs.getD j 0 = 0) (fun i => xs.length - (intOf i).toNat)
  case atStart => exact ⟨0, Nat.zero_le _, rfl, fun j hj => by omega⟩
  case round =>
    obtain ⟨k, hk, rfl, hz⟩ := hrel
    have HZ := Lib.hid hz
    clear hz
    by_cases hlt : k < xs.length
    · have cc := HC.out k hlt
      obtain ⟨x, hx⟩ : ∃ x, x = xs.getD k 0 := ⟨_, rfl⟩
      rw [← hx] at cc
      have HX := Lib.hid hx
      clear hx
      by_cases h0 : x = 0
      · subst h0
        go_wp2_with fail
        go_round
        case rel => exact ⟨k + 1, by omega, by go_num, fun j hj => by
          by_cases e : j = k
          · rw [e]; exact HX.out.symm
          · exact HZ.out j (by omega)⟩
        case measure => simp [intOf]; omega
      · have hb : (x != 0) = true := by rw [bne_iff_ne]; exact h0
        go_wp2_with fail
        go_ret
        have hx := HX.out
        exact ⟨ret_i (by rw [firstNZ_at xs k HZ.out hlt (by rw [← hx]; exact h0), hx]), rfl⟩
    · have hkl : k = xs.length := by omega
      have he : decide (k < xs.length) = false := by simpa using hlt
      go_wp2_with fail
      go_ret
      exact ⟨ret_i (firstNZ_none xs (by rw [← hkl]; exact HZ.out)).symm, rfl⟩
end Go.Proofs.YtieoiklgoeclaaaGreat
