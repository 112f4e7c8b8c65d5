/-
  The document's own padding of no bytes at all.
-/
import Derived.Test.YtgempifedhiknaaGreatDoorRefPad
import Derived.Laws.AppendOwnNone
namespace Go.Proofs.YtgempifedhiknaaGreatDoor
set_option maxRecDepth 100000
open Go.RowKit Sha

theorem zpad_nil_length (z : Nat) : (zpad [] z).length = z + 1 := by rw [zpad_length]; simp; omega
theorem be_zero (j : Nat) (hj : j < 8) : (be64 0).take j ++ [0] = (be64 0).take (j + 1) := by
  have := be_take 0 j hj
  rwa [Nat.zero_div] at this

set_option maxRecDepth 100000 in
set_option maxHeartbeats 1000000 in
theorem padded_nil (w : World) :
    Calls Tryz.prog 67 #[.slice none 0 0] w (Padded w []) := by
  obtain ⟨i0, hi0, hz0, hz1, hz2⟩ := info_parts info5
  go_enter Tryz.func67, Tryz.ntmps67
  go_upto_region 2 with (at_builtin; refine wpList_append_own_none rfl _ _ 22 rfl w.heap.size 5 i0 1 Tryz.underlying22 hi0 _ 0 [] rfl (empty_own8 w) rfl ?_)
  have hq : AtQ w [] (.slice (some ⟨w.heap.size, 0, none⟩) 0 0) (w.alloc (.cells #[] 5)) := ⟨empty_own8 w, (Below.refl _ _).alloc (Nat.le_refl _) _⟩
  have HQ := Lib.hid hq
  clear hq hi0 hz0 hz1 hz2
  generalize w.alloc (.cells #[] 5) = w2 at HQ ⊢
  go_upto_region 3 with (at_builtin; refine wpList_push rfl _ _ rfl [] _ 128 rfl rfl (by simp) HQ.out ?_; intro v3 w3 HQ3)
  have hq3 : AtQ w (zpad [] 0) v3 w3 := by have := HQ3.out; simpa [zpad] using this
  obtain ⟨g3, c3, hv3⟩ := hq3.shape (by rw [zpad_nil_length]; omega)
  rw [zpad_nil_length] at hv3
  rw [hv3] at hq3 ⊢
  have HS := Lib.hid hq3
  clear hq3 hv3 HQ3 HQ
  go_loopw [3] (fun v wr => ∃ (z g3 c3 : Nat), z ≤ gap 0 ∧ v = .slice (some ⟨g3, 0, none⟩) (z + 1) c3 ∧ AtQ w (zpad [] z) v wr) (fun v _ => 1 + gap 0 - lenQ v)
  case atStart => exact ⟨0, g3, c3, Nat.zero_le _, rfl, HS.out⟩
  case round =>
    obtain ⟨z, g4, c4, hz, rfl, hat⟩ := hrel
    have HA := Lib.hid hat
    clear hat HS
    have hg0 : gap 0 = 55 := by decide
    rw [hg0] at hz ⊢
    by_cases hlt : z < 55
    · have b1 : (((z : Int) + 1) % 64 != 56) = true := by rw [bne_iff_ne]; omega
      clear hg0
      go_wp2_with (at_builtin; refine wpList_push rfl _ _ rfl (zpad [] z) _ 0 rfl rfl (by rw [zpad_nil_length]; omega) HA.out ?_; intro v5 w5 HQ5; rw [zpad_succ] at HQ5; obtain ⟨g6, c6, hv6⟩ := HQ5.out.shape (by rw [zpad_nil_length]; omega); rw [zpad_nil_length] at hv6; rw [hv6] at HQ5 ⊢; clear hv6)
      refine ⟨⟨_, _, _, _, _, _, _, _, ⟨z + 1, g6, c6, hlt, rfl, HQ5.out⟩, rfl⟩, ?_⟩
      show 1 + 55 - (z + 1 + 1) < 1 + 55 - (z + 1)
      omega
    · obtain rfl : z = 55 := by omega
      have b0 : (((55 : Int) + 1) % 64 != 56) = false := by decide
      clear hg0
      go_wp2_with fail
      have hq0 : AtQ w (zpad [] 55 ++ (be64 0).take 0) (.slice (some ⟨g4, 0, none⟩) (55 + 1) c4) wr := by simpa using HA.out
      have HQ0 := Lib.hid hq0
      clear hq0 HA hlt hz b0
      go_loopw [3, 5] (fun v i wr => ∃ (j g3 c3 : Nat), j ≤ 8 ∧ i = .int .i64 (7 - (j : Int)) ∧ v = .slice (some ⟨g3, 0, none⟩) (56 + j) c3 ∧ AtQ w (zpad [] 55 ++ (be64 0).take j) v wr) (fun _ i _ => (intOf i + 1).toNat)
      case atStart => exact ⟨0, g4, c4, by omega, rfl, rfl, HQ0.out⟩
      case round =>
        obtain ⟨j, g5, c5, hj, rfl, rfl, hat⟩ := hrel
        have HA := Lib.hid hat
        clear hat HQ0
        by_cases hlt : j < 8
        · have x1 : (0 : Int) ≤ 7 - (j : Int) := by omega
          have x2 : (j : Int) ≤ 7 := by omega
          have x3 : IntKind.u64.wrap (8 * (7 - (j : Int))) = 8 * (7 - (j : Int)) := by rw [IntKind.wrap_u64]; omega
          have x4 : (0 : Int) ≤ 8 * (7 - (j : Int)) := by omega
          have x5 : 8 * (7 - (j : Int)) ≤ 64 := by omega
          have x6 : (8 * (7 - (j : Int))).toNat = 8 * (7 - j) := by omega
          have hbt := be_zero j hlt
          have HBT := Lib.hid hbt
          clear hbt
          have hl8 : (zpad [] 55 ++ (be64 0).take j).length ≤ 2000000 := by rw [List.length_append, zpad_nil_length, be_len 0 j (by omega)]; omega
          have hl9 : (zpad [] 55 ++ (be64 0).take (j + 1)).length = 56 + (j + 1) := by rw [List.length_append, zpad_nil_length, be_len 0 (j + 1) (by omega)]
          have HL8 := Lib.hid hl8
          have HL9 := Lib.hid hl9
          clear hl8 hl9
          go_wp2_with (at_builtin; refine wpList_push rfl _ _ rfl (zpad [] 55 ++ (be64 0).take j) _ 0 rfl rfl HL8.out HA.out ?_; intro v5 w5 HQ5; rw [List.append_assoc, HBT.out] at HQ5; obtain ⟨g6, c6, hv6⟩ := HQ5.out.shape (by rw [HL9.out]; omega); rw [HL9.out] at hv6; rw [hv6] at HQ5 ⊢; clear hv6)
          have hi : Value.int .i64 (7 - (j : Int) - 1) = Value.int .i64 (7 - ((j + 1 : Nat) : Int)) := by congr 1; omega
          refine ⟨⟨_, _, _, _, _, _, _, _, _, _, _, _, _, _, _, ⟨j + 1, g6, c6, hlt, hi, rfl, HQ5.out⟩, rfl⟩, ?_⟩
          show (7 - (j : Int) - 1 + 1).toNat < (7 - (j : Int) + 1).toNat
          omega
        · obtain rfl : j = 8 := by omega
          have x1 : ¬ (0 : Int) ≤ 7 - ((8 : Nat) : Int) := by omega
          have hat := HA.out
          have hp : zpad [] 55 ++ (be64 0).take 8 = pad [] := pad_is []
          rw [hp] at hat
          have HX := Lib.hid (And.intro hat.byts (And.intro hat.2 hat.room))
          clear hat HA hlt hj hp
          go_wp2_with fail
          go_ret
          exact ⟨g5, c5, rfl, HX.out.2.2.1, HX.out.2.2.2.1, HX.out.1.1, HX.out.1.2, HX.out.2.2.2.2, HX.out.2.1⟩
end Go.Proofs.YtgempifedhiknaaGreatDoor
