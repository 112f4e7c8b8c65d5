/-
  awake: the chapter's two examples of hashes. No condition but the two tables as laid.
-/
import Derived.Test.YtccfdobogbiomaaDoorHex
import Derived.Lib.SlBytesConst
namespace Go.Proofs.YtccfdobogbiomaaDoor
open Go.RowKit Sha

theorem hexs_nil : hexs (sha []) = [101, 51, 98, 48, 99, 52, 52, 50, 57, 56, 102, 99, 49, 99, 49, 52, 57, 97, 102, 98, 102, 52, 99, 56, 57, 57, 54, 102, 98, 57, 50, 52, 50, 55, 97, 101, 52, 49, 101, 52, 54, 52, 57, 98, 57, 51, 52, 99, 97, 52, 57, 53, 57, 57, 49, 98, 55, 56, 53, 50, 98, 56, 53, 53] := by rw [sha_nil]; decide +kernel
theorem hexs_abc : hexs (sha [97, 98, 99]) = [98, 97, 55, 56, 49, 54, 98, 102, 56, 102, 48, 49, 99, 102, 101, 97, 52, 49, 52, 49, 52, 48, 100, 101, 53, 100, 97, 101, 50, 50, 50, 51, 98, 48, 48, 51, 54, 49, 97, 51, 57, 54, 49, 55, 55, 97, 57, 99, 98, 52, 49, 48, 102, 102, 54, 49, 102, 50, 48, 48, 49, 53, 97, 100] := by rw [sha_abc]; decide +kernel
theorem sha_length (l : List UInt8) : (sha l).length = 32 := rfl

theorem of_nil (w : World) (hs : Starts w) (hc : Cubes w) : Calls Tryd.prog 10 #[.slice none 0 0] w fun e w' => e = .returned (.agg (B8 (sha []))) ∧ Below w.heap.size w w' :=
  of_any [] w none 0 (by decide) (fun p hp => absurd hp (by simp)) (fun h => absurd h (by simp)) (by decide) hs hc
theorem hex_nil (w : World) : Calls Tryd.prog 19 #[.agg (B8 (sha []))] w fun e w' => e = .returned (.string ⟨#[101, 51, 98, 48, 99, 52, 52, 50, 57, 56, 102, 99, 49, 99, 49, 52, 57, 97, 102, 98, 102, 52, 99, 56, 57, 57, 54, 102, 98, 57, 50, 52, 50, 55, 97, 101, 52, 49, 101, 52, 54, 52, 57, 98, 57, 51, 52, 99, 97, 52, 57, 53, 57, 57, 49, 98, 55, 56, 53, 50, 98, 56, 53, 53]⟩) ∧ Below w.heap.size w w' := by
  have := hex_any (sha []) (sha_length _) w
  rwa [hexs_nil] at this
theorem hex_abc (w : World) : Calls Tryd.prog 19 #[.agg (B8 (sha [97, 98, 99]))] w fun e w' => e = .returned (.string ⟨#[98, 97, 55, 56, 49, 54, 98, 102, 56, 102, 48, 49, 99, 102, 101, 97, 52, 49, 52, 49, 52, 48, 100, 101, 53, 100, 97, 101, 50, 50, 50, 51, 98, 48, 48, 51, 54, 49, 97, 51, 57, 54, 49, 55, 55, 97, 57, 99, 98, 52, 49, 48, 102, 102, 54, 49, 102, 50, 48, 48, 49, 53, 97, 100]⟩) ∧ Below w.heap.size w w' := by
  have := hex_any (sha [97, 98, 99]) (sha_length _) w
  rwa [hexs_abc] at this

theorem three_blocks (w : World) (A B C : Obj) : (((w.alloc A).alloc B).alloc C).heap[w.heap.size]? = some A ∧ (((w.alloc A).alloc B).alloc C).heap[w.heap.size + 1]? = some B ∧ (((w.alloc A).alloc B).alloc C).heap[w.heap.size + 1 + 1]? = some C := by
  have e1 : (w.alloc A).heap.size = w.heap.size + 1 := by simp
  have e2 : ((w.alloc A).alloc B).heap.size = w.heap.size + 1 + 1 := by simp
  refine ⟨?_, ?_, ?_⟩
  · rw [Below.heap_alloc _ _ _ (by omega), Below.heap_alloc _ _ _ (by omega)]; exact Go.heap_alloc_new w A
  · rw [Below.heap_alloc _ _ _ (by omega), ← e1]; exact Go.heap_alloc_new (w.alloc A) B
  · rw [← e2]; exact Go.heap_alloc_new ((w.alloc A).alloc B) C
theorem of_abc (w : World) (hs : Starts w) (hc : Cubes w) :
    Calls Tryd.prog 10 #[.slice (some ⟨w.heap.size + 1 + 1, 0, none⟩) 3 3] (((w.alloc (.cells #[.int .u8 97] 5 (1, 2))).alloc (.cells #[.int .u8 98, .int .u8 99] 5 (2, 3))).alloc
      (.cells #[.slice (some ⟨w.heap.size, 0, none⟩) 1 1, .slice none 0 0, .slice (some ⟨w.heap.size + 1, 0, none⟩) 2 2] 38))
      fun e w' => e = .returned (.agg (B8 (sha [97, 98, 99]))) ∧ Below w.heap.size w w' := by
  obtain ⟨t1, t2, t3⟩ := three_blocks w (.cells #[.int .u8 97] 5 (1, 2)) (.cells #[.int .u8 98, .int .u8 99] 5 (2, 3)) (.cells #[.slice (some ⟨w.heap.size, 0, none⟩) 1 1, .slice none 0 0, .slice (some ⟨w.heap.size + 1, 0, none⟩) 2 2] 38)
  have hs3 : Starts (((w.alloc (.cells #[.int .u8 97] 5 (1, 2))).alloc (.cells #[.int .u8 98, .int .u8 99] 5 (2, 3))).alloc (.cells #[.slice (some ⟨w.heap.size, 0, none⟩) 1 1, .slice none 0 0, .slice (some ⟨w.heap.size + 1, 0, none⟩) 2 2] 38)) := ((Lies.alloc hs _).alloc _).alloc _
  have hc3 : Cubes (((w.alloc (.cells #[.int .u8 97] 5 (1, 2))).alloc (.cells #[.int .u8 98, .int .u8 99] 5 (2, 3))).alloc (.cells #[.slice (some ⟨w.heap.size, 0, none⟩) 1 1, .slice none 0 0, .slice (some ⟨w.heap.size + 1, 0, none⟩) 2 2] 38)) := ((Lies.alloc hc _).alloc _).alloc _
  have hbel := (((Below.refl w.heap.size w).alloc (Nat.le_refl _) (.cells #[.int .u8 97] 5 (1, 2))).alloc (by simp) (.cells #[.int .u8 98, .int .u8 99] 5 (2, 3))).alloc (by simp; omega) (.cells #[.slice (some ⟨w.heap.size, 0, none⟩) 1 1, .slice none 0 0, .slice (some ⟨w.heap.size + 1, 0, none⟩) 2 2] 38)
  have hsz : (((w.alloc (.cells #[.int .u8 97] 5 (1, 2))).alloc (.cells #[.int .u8 98, .int .u8 99] 5 (2, 3))).alloc (.cells #[.slice (some ⟨w.heap.size, 0, none⟩) 1 1, .slice none 0 0, .slice (some ⟨w.heap.size + 1, 0, none⟩) 2 2] 38)).heap.size = w.heap.size + 1 + 1 + 1 := by simp
  generalize ((w.alloc (.cells #[.int .u8 97] 5 (1, 2))).alloc (.cells #[.int .u8 98, .int .u8 99] 5 (2, 3))).alloc (.cells #[.slice (some ⟨w.heap.size, 0, none⟩) 1 1, .slice none 0 0, .slice (some ⟨w.heap.size + 1, 0, none⟩) 2 2] 38) = W at t1 t2 t3 hs3 hc3 hbel hsz ⊢
  have hm : (3 : Nat) ≤ maxLen := by unfold maxLen; omega
  refine (of_any [⟨some ⟨w.heap.size, 0, none⟩, [97], 1⟩, ⟨none, [], 0⟩, ⟨some ⟨w.heap.size + 1, 0, none⟩, [98, 99], 2⟩] W (some ⟨w.heap.size + 1 + 1, 0, none⟩) 3 hm ?_ ?_ ?_ hs3 hc3).mono ?_
  · intro p hp
    simp only [List.mem_cons, List.not_mem_nil, or_false] at hp
    rcases hp with rfl | rfl | rfl
    · refine ⟨Nat.le_refl _, Nat.le_trans (by decide : (1 : Nat) ≤ 3) hm, fun _ => ⟨_, _, rfl, by omega, fun j hj => ?_⟩⟩
      obtain rfl : j = 0 := by simp at hj; omega
      exact cell_of_row W _ _ _ _ _ t1
    · exact ⟨Nat.le_refl _, Nat.zero_le _, fun h => absurd h (by simp)⟩
    · refine ⟨Nat.le_refl _, Nat.le_trans (by decide : (2 : Nat) ≤ 3) hm, fun _ => ⟨_, _, rfl, by omega, fun j hj => ?_⟩⟩
      have hj2 : j = 0 ∨ j = 1 := by simp at hj; omega
      rcases hj2 with rfl | rfl
      · exact cell_of_row W _ _ _ _ _ t2
      · exact cell_of_row W _ _ _ _ _ t2
  · intro _
    refine ⟨_, _, rfl, by omega, fun j hj => ?_⟩
    have hj2 : j = 0 ∨ j = 1 ∨ j = 2 := by simp at hj; omega
    rcases hj2 with rfl | rfl | rfl
    · exact cell_of_row W _ _ _ _ _ t3
    · exact cell_of_row W _ _ _ _ _ t3
    · exact cell_of_row W _ _ _ _ _ t3
  · show (3 : Nat) ≤ 1000000
    omega
  · rintro e w3 ⟨rfl, hb3⟩
    exact ⟨rfl, hbel.trans (hb3.mono hbel.size)⟩

set_option maxRecDepth 100000 in
set_option maxHeartbeats 2000000 in
theorem awake_any (w : World) (hs : Starts w) (hc : Cubes w) : Calls Tryd.prog 8 #[] w fun e w' => e = .returned (.bool true) ∧ Below w.heap.size w w' := by
  have h1n : 1 < w.heap.size := Lies.lt hc
  have HS := Lib.hid hs
  have HC := Lib.hid hc
  have H1 := Lib.hid h1n
  clear hs hc h1n
  go_enter Tryd.func8, Tryd.ntmps8
  go_wp2_with fail
  refine (of_nil w HS.out HC.out).mono ?_
  rintro e w1 ⟨rfl, hb1⟩
  have HB1 := Lib.hid hb1
  clear hb1
  go_wp2_with fail
  refine (hex_nil w1).mono ?_
  rintro e w2 ⟨rfl, hb2⟩
  have HB2 := Lib.hid (HB1.out.trans (hb2.mono HB1.out.size))
  clear hb2 HB1
  have kc := fun (w : World) (C : Array Value) (n c : Nat) => Lib.run_convert_bytes_const (P := Tryd.prog) w 38 5 C n c Tryd.underlying38 Tryd.underlying5
  have kc2 := kc (w2.alloc (.cells #[.int .u8 97] 5 (1, 2))) #[.int .u8 98, .int .u8 99] 2 2
  simp only [World.size_alloc, List.size_toArray, List.length_cons, List.length_nil, Nat.zero_add, Nat.reduceAdd] at kc2
  go_wp2_with fail
  clear kc kc2
  have h2n : 1 < w2.heap.size := by have := HB2.out.size; have := H1.out; omega
  have hs2 : Starts w2 := HS.out.below HB2.out (by have := H1.out; omega)
  have hc2 : Cubes w2 := HC.out.below HB2.out H1.out
  refine (of_abc w2 hs2 hc2).mono ?_
  rintro e w3 ⟨rfl, hb3⟩
  have HB3 := Lib.hid (HB2.out.trans (hb3.mono HB2.out.size))
  clear hb3 hs2 hc2 h2n HB2
  go_wp2_with fail
  refine (hex_abc w3).mono ?_
  rintro e w4 ⟨rfl, hb4⟩
  have HB4 := Lib.hid (HB3.out.trans (hb4.mono HB3.out.size))
  clear hb4 HB3
  go_wp2_with fail
  go_ret
  exact ⟨rfl, HB4.out⟩
end Go.Proofs.YtccfdobogbiomaaDoor
