/-
  Texts and rows of bytes compared; the first that is not 0.
-/
import Derived.Test.YtjngghihciimjaaVw
import Derived.Laws.Externs
import Derived.Lib.BytesEntry
import Derived.Laws.IdiomStrings
import Derived.Lib.Hide
import Derived.Laws.Cover1
import Derived.WalkSmall
import Derived.Deep.RegionHeld3
namespace Go.Proofs.Ytjngghihciimjaa
set_option maxRecDepth 100000
open Go.RowKit

def B8 (l : List UInt8) : Array Value := (l.map fun b => Value.int .u8 b.toNat).toArray
theorem B8_size (l : List UInt8) : (B8 l).size = l.length := by simp [B8]
theorem B8_get (l : List UInt8) (i : Nat) (h : i < l.length) : (B8 l)[i]? = some (.int .u8 (l.getD i 0).toNat) := by simp [B8, h]
theorem B8_one (l : List UInt8) : (B8 l).all (·.oneCell') = true := by
  rw [Array.all_eq_true_iff_forall_mem]; intro v hv; simp [B8] at hv; obtain ⟨_, _, rfl⟩ := hv; rfl
/-- A text of bytes. -/
def txt (l : List UInt8) : ByteArray := ⟨l.toArray⟩
theorem txt_list (l : List UInt8) : (txt l).toList = l := by
  rw [ByteArray.toList_eq]
  rfl
theorem less_is : ∀ x y : List UInt8, (if Op.bytesLess x y = true then (-1 : Int) else if (x == y) = true then 0 else 1) = cmpB x y
  | [], [] => rfl
  | [], _ :: _ => rfl
  | _ :: _, [] => rfl
  | a :: al, b :: bl => by
    have ih := less_is al bl
    unfold Op.bytesLess cmpB
    rcases u8_tri a b with k | rfl | k
    · simp [k]
    · simp only [u8_irrefl, if_false]
      rw [← ih]
      simp
    · have hne : a ≠ b := fun e => by subst e; exact u8_irrefl a k
      simp [k, u8_asymm k, hne]
theorem ret_i {a b : Int} (h : a = b) : Ending.returned (.int .i64 a) = .returned (.int .i64 b) := by rw [h]
theorem cmpnanS_any (x : ByteArray) (w : World) : Calls Try.prog 58 #[.string x] w fun e w' => e = .returned (.bool false) ∧ w = w' := by
  go_enter Try.func58, Try.ntmps58
  go_wp2
  go_ret
  exact ⟨rfl, rfl⟩
set_option maxHeartbeats 400000 in
theorem compareS_any (w : World) (x y : List UInt8) : Calls Try.prog 53 #[.string (txt x), .string (txt y)] w fun e w' => e = .returned (.int .i64 (cmpB x y)) ∧ w = w' := by
  obtain ⟨m, hm⟩ : ∃ m, m = cmpB x y := ⟨_, rfl⟩
  rw [← hm]
  rw [← less_is] at hm
  have hx := txt_list x
  have hy := txt_list y
  generalize txt x = X at hx ⊢
  generalize txt y = Y at hy ⊢
  subst hx hy
  have c1 := cmpnanS_any X w
  have c2 := cmpnanS_any Y w
  have HM := Lib.hid hm
  clear hm
  go_enter Try.func53, Try.ntmps53
  go_wp2_with fail
  refine c1.mono ?_
  rintro e w' ⟨rfl, rfl⟩
  go_wp2_with fail
  refine c2.mono ?_
  rintro e w' ⟨rfl, rfl⟩
  clear c1 c2
  go_wp2_with fail
  all_goals (go_ret; have hm := HM.out; exact ⟨ret_i (by rw [hm]; simp_all), rfl⟩)
/-- The first that is not 0. -/
def firstNZ : List Int → Int
  | [] => 0
  | x :: l => if x = 0 then firstNZ l else x
theorem firstNZ_at : ∀ (xs : List Int) (k : Nat), (∀ j, j < k → xs.getD j 0 = 0) → k < xs.length → xs.getD k 0 ≠ 0 → firstNZ xs = xs.getD k 0
  | [], k, _, h, _ => by simp at h
  | x :: l, 0, _, _, h => by simp at h ⊢; simp [firstNZ, h]
  | x :: l, k + 1, h0, h1, h2 => by
    have hx : x = 0 := by have := h0 0 (by omega); simpa using this
    have ih := firstNZ_at l k (fun j hj => by have := h0 (j + 1) (by omega); simpa using this) (by simpa using h1) (by simpa using h2)
    unfold firstNZ
    rw [if_pos hx, ih]
    simp
theorem firstNZ_none : ∀ (xs : List Int), (∀ j, j < xs.length → xs.getD j 0 = 0) → firstNZ xs = 0
  | [], _ => rfl
  | x :: l, h => by
    have hx : x = 0 := by have := h 0 (by simp); simpa using this
    unfold firstNZ
    rw [if_pos hx, firstNZ_none l fun j hj => by have := h (j + 1) (by simp; omega); simpa using this]
theorem or_any (xs : List Int) (g c : Nat) (w : World) (hc : ∀ j, j < xs.length → w.cell? ⟨g, j, none⟩ = some (.int .i64 (xs.getD j 0))) (hl : xs.length ≤ 100) :
    Calls Try.prog 51 #[.slice (some ⟨g, 0, none⟩) xs.length c] w fun e w' => e = .returned (.int .i64 (firstNZ xs)) ∧ w = w' := by
  have HC := Lib.hid hc
  clear hc
  go_enter Try.func51, Try.ntmps51
  go_wp2_with fail
  go_loop [8] (fun i => ∃ k : Nat, k ≤ xs.length ∧ i = .int .i64 k ∧ ∀ j, j < k → xs.getD j 0 = 0) (fun i => xs.length - (intOf i).toNat)
  case atStart => exact ⟨0, Nat.zero_le _, rfl, fun j hj => by omega⟩
  case round =>
    obtain ⟨k, hk, rfl, hz⟩ := hrel
    have HZ := Lib.hid hz
    clear hz
    by_cases hlt : k < xs.length
    · have cc := HC.out k hlt
      obtain ⟨x, hx⟩ : ∃ x, x = xs.getD k 0 := ⟨_, rfl⟩
      rw [← hx] at cc
      have HX := Lib.hid hx
      clear hx
      by_cases h0 : x = 0
      · subst h0
        go_wp2_with fail
        go_round
        case rel => exact ⟨k + 1, by omega, by go_num, fun j hj => by
          by_cases e : j = k
          · rw [e]; exact HX.out.symm
          · exact HZ.out j (by omega)⟩
        case measure => simp [intOf]; omega
      · have hb : (x != 0) = true := by rw [bne_iff_ne]; exact h0
        go_wp2_with fail
        go_ret
        have hx := HX.out
        exact ⟨ret_i (by rw [firstNZ_at xs k HZ.out hlt (by rw [← hx]; exact h0), hx]), rfl⟩
    · have hkl : k = xs.length := by omega
      subst hkl
      have hd : decide (xs.length < xs.length) = false := by simp
      go_wp2_with fail
      go_ret
      exact ⟨ret_i (firstNZ_none xs HZ.out).symm, rfl⟩
/-- The model's own comparison of rows of bytes. -/
theorem cmp_find (a b : List UInt8) : (match (List.range (min a.length b.length)).find? fun i => a.getD i 0 != b.getD i 0 with
    | some i => if a.getD i 0 < b.getD i 0 then (-1 : Int) else 1
    | none => if a.length < b.length then -1 else if a.length > b.length then 1 else 0) = cmpB a b := by
  induction a generalizing b with
  | nil => cases b <;> simp [cmpB]
  | cons x al ih =>
    cases b with
    | nil => simp [cmpB]
    | cons y bl =>
      have hm : min (x :: al).length (y :: bl).length = min al.length bl.length + 1 := by simp
      rw [hm, List.range_succ_eq_map]
      unfold cmpB
      rw [List.find?_cons]
      rcases u8_tri x y with k | rfl | k
      · have hne : (x != y) = true := by rw [bne_iff_ne]; intro e; subst e; exact u8_irrefl x k
        simp [hne, k]
      · have ih' := ih bl
        simp only [List.getD_cons_zero, bne_self_eq_false, u8_irrefl, if_false]
        rw [List.find?_map, ← ih']
        have e : ((fun i => (x :: al).getD i 0 != (x :: bl).getD i 0) ∘ Nat.succ) = fun i => al.getD i 0 != bl.getD i 0 := by
          funext i
          simp
        rw [e]
        cases hf : List.find? (fun i => al.getD i 0 != bl.getD i 0) (List.range (min al.length bl.length)) with
        | none => simp [Nat.add_lt_add_iff_right]
        | some i => simp
      · have hne : (x != y) = true := by rw [bne_iff_ne]; intro e; subst e; exact u8_irrefl x k
        simp [hne, k, u8_asymm k]
theorem cmp_is (a b : List UInt8) : Extern.BytealgCompare.cmp (txt a) (txt b) = cmpB a b := by
  rw [← cmp_find]
  have hs : ∀ l : List UInt8, (txt l).size = l.length := fun l => by show l.toArray.size = _; simp
  have hg : ∀ (l : List UInt8) (i : Nat), (txt l)[i]! = l.getD i 0 := fun l i => by
    by_cases h : i < l.length
    · rw [getElem!_pos (txt l) i (by rw [hs]; exact h)]
      show l.toArray[i] = _
      simp [h]
    · rw [getElem!_neg (txt l) i (by rw [hs]; exact h)]
      simp [h]
      rfl
  unfold Extern.BytealgCompare.cmp
  simp only [hs, hg]
  cases List.find? (fun i => a.getD i 0 != b.getD i 0) (List.range (min a.length b.length)) <;> rfl
/-- Bytes stand in a block. -/
def Src (w : World) (g off : Nat) (xs : List UInt8) : Prop := ∀ j, j < xs.length → w.cell? ⟨g, off + j, none⟩ = some (.int .u8 (xs.getD j 0).toNat)
theorem run_bytes {P : Program} (w : World) (g off c : Nat) (l : List UInt8) (h : Src w g off l) : (Extern.Bytes.bytesOf (.slice (some ⟨g, off, none⟩) l.length c)).run P w = .ok (txt l) w := by
  have hl := Lib.run_loadBytesX (P := P) w (l.map fun b => (b.toNat : Int)) ⟨g, off, none⟩ .empty (fun j x hj => by
    have hjl : j < l.length := by simpa using (List.getElem?_eq_some_iff.1 hj).1
    have e : (⟨g, off, none⟩ : Addr).add j = ⟨g, off + j, none⟩ := by unfold Addr.add; split <;> simp_all
    rw [e, h j hjl]
    simp [hjl] at hj
    simp [hjl, hj])
  rw [List.length_map] at hl
  simp only [Extern.Bytes.bytesOf]
  rw [hl]
  congr 1
  apply ByteArray.ext
  have e : (fun n : Int => UInt8.ofNat n.toNat) ∘ (fun b : UInt8 => (b.toNat : Int)) = id := by
    funext b
    simp
  show (#[] : Array UInt8) ++ _ = l.toArray
  simp [Lib.bytesOf, e]
theorem bytealg_run (w : World) (g1 o1 c1 g2 o2 c2 : Nat) (a b : List UInt8) (h1 : Src w g1 o1 a) (h2 : Src w g2 o2 b) :
    (callFunc 57 #[.slice (some ⟨g1, o1, none⟩) a.length c1, .slice (some ⟨g2, o2, none⟩) b.length c2]).run Try.prog w = .ok (.value (.int .i64 (cmpB a b))) w := by
  rw [run_callFunc_extern Try.func57 (by kernel_rfl) (by kernel_rfl) (by kernel_rfl) (e := Extern.BytealgCompare.compare) (by kernel_rfl)]
  change (Sem.run Try.prog (do
    let x ← Extern.Bytes.bytesOf (.slice (some ⟨g1, o1, none⟩) a.length c1)
    let y ← Extern.Bytes.bytesOf (.slice (some ⟨g2, o2, none⟩) b.length c2)
    pure (goInt (Extern.BytealgCompare.cmp x y))) w).andThen _ = _
  simp only [Sem.run_bind, run_bytes w g1 o1 c1 a h1, run_bytes w g2 o2 c2 b h2, Result.andThen_ok, Sem.run_pure, cmp_is]
  rfl
theorem bytes_any (w : World) (g1 o1 c1 g2 o2 c2 : Nat) (a b : List UInt8) (h1 : Src w g1 o1 a) (h2 : Src w g2 o2 b) :
    Calls Try.prog 52 #[.slice (some ⟨g1, o1, none⟩) a.length c1, .slice (some ⟨g2, o2, none⟩) b.length c2] w fun e w' => e = .returned (.int .i64 (cmpB a b)) ∧ w = w' := by
  have hrun := bytealg_run w g1 o1 c1 g2 o2 c2 a b h1 h2
  clear h1 h2
  generalize cmpB a b = m at hrun ⊢
  go_enter Try.func52, Try.ntmps52
  go_wp2
  go_ret
  exact ⟨rfl, rfl⟩
end Go.Proofs.Ytjngghihciimjaa
