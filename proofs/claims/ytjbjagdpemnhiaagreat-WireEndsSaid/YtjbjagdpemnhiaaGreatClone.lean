/-
  bytes.Clone: a copy in new memory; nil of nil.
-/
import Derived.Test.YtjbjagdpemnhiaaGreatRaw
import Derived.Laws.Cover3
namespace Go.Proofs.YtjbjagdpemnhiaaGreat
open Go.RowKit

theorem eql_slice_nil (w : World) (a : Option Addr) (l c : Nat) : (binOp .eql 26 (.slice a l c) (.slice none 0 0)).run Tryz.prog w = .ok (.bool a.isNone) w := by
  simp only [binOp]
  simp [run_equal_slice_nil (P := Tryz.prog) w 26 5 a l c Tryz.underlying26]
set_option maxRecDepth 100000 in
theorem clone_nil (w : World) : Calls Tryz.prog 44 #[.slice none 0 0] w fun e w' => e = .returned (.slice none 0 0) ∧ w = w' := by
  have hq := eql_slice_nil w none 0 0
  go_enter Tryz.func44, Tryz.ntmps44
  go_wp2
  go_ret
  exact ⟨rfl, rfl⟩
set_option maxRecDepth 100000 in
set_option maxHeartbeats 1000000 in
theorem clone_anyA (w : World) (xs : List UInt8) (ad : Addr) (c : Nat) (hs : SrcA w ad xs) (hx : xs.length ≤ 2000000) :
    Calls Tryz.prog 44 #[.slice (some ad) xs.length c] w fun e w' => ∃ v, e = .returned v ∧ w'.ownsRow w.heap.size 5 1 v xs.length (B8 xs).toList ∧ Below w.heap.size w w' := by
  obtain ⟨i0, hi0, hz0, hz1, hz2⟩ := info_parts info5
  have he : (w.alloc (.cells #[] 5)).ownsRow w.heap.size 5 1 (.slice (some ⟨w.heap.size, 0, none⟩) 0 0) 0 [] := World.ownsRow_made w #[] 0 (Nat.le_refl _) (Nat.zero_le _) rfl
  have hb : Below w.heap.size w (w.alloc (.cells #[] 5)) := (Below.refl _ _).alloc (Nat.le_refl _) _
  have hs2 : SrcA (w.alloc (.cells #[] 5)) ad xs := hs.below hb hs.lt
  have HE := Lib.hid he
  have HB := Lib.hid hb
  have HS := Lib.hid hs2
  clear he hb hs2 hs
  have hq := eql_slice_nil w (some ad) xs.length c
  go_enter Tryz.func44, Tryz.ntmps44
  go_wp2_with (at_builtin; go_must (refine wpList_append_own_at _ rfl _ _ 26 rfl w.heap.size 5 i0 (.int .u8 0) 1 1 Tryz.underlying26 hi0 hz0 hz1 hz2 rfl (by decide) _ 0 [] rfl HE.out ad xs.length c (B8 xs).toList rfl (by rw [Array.length_toList, B8_size, Nat.mul_one]) HS.out (byts_one _) (by unfold maxLen; omega) (by omega) (by simp) ?_; intro v' w1 hown hgrow _ hat))
  go_ret
  refine ⟨_, rfl, by simpa using hown, HB.out.grown hgrow (by simp) (fun k e => ?_)⟩
  have : w.heap.size = k := Option.some.inj e
  omega
theorem clone_any (w : World) (xs : List UInt8) (gx off c : Nat) (hs : Src w gx off xs) (_hg : gx < w.heap.size) (hx : xs.length ≤ 2000000) :
    Calls Tryz.prog 44 #[.slice (some ⟨gx, off, none⟩) xs.length c] w fun e w' => ∃ v, e = .returned v ∧ w'.ownsRow w.heap.size 5 1 v xs.length (B8 xs).toList ∧ Below w.heap.size w w' :=
  clone_anyA w xs _ c (src_news hs) hx
end Go.Proofs.YtjbjagdpemnhiaaGreat
