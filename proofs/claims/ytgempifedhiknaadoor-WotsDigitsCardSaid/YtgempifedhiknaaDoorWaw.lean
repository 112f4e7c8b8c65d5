/-
  What the laws of wots call besides: a message of one byte (12), the next hash (18).
-/
import Derived.Test.YtgempifedhiknaaDoorWsign
namespace Go.Proofs.YtgempifedhiknaaDoor
open Go.RowKit Go.Shelf Sha

def fullRow (c : UInt8) (j : Nat) : List UInt8 := List.replicate j c ++ List.replicate (32 - j) 0
theorem fullRow_length (c : UInt8) (j : Nat) (hj : j ≤ 32) : (fullRow c j).length = 32 := by simp [fullRow]; omega
theorem fullRow_set (c : UInt8) (j : Nat) (hj : j < 32) : (fullRow c j).set j c = fullRow c (j + 1) := by
  unfold fullRow
  rw [List.set_append_right _ _ (by simp), List.length_replicate, Nat.sub_self, show 32 - j = (32 - (j + 1)) + 1 by omega, List.replicate_succ, List.set_cons_zero, List.replicate_succ', List.append_assoc]
  rfl
def fullM (c : UInt8) : List UInt8 := List.replicate 32 c
theorem fullRow_all (c : UInt8) : fullRow c 32 = fullM c := by simp [fullRow, fullM]
set_option maxRecDepth 100000 in
set_option maxHeartbeats 1000000 in
theorem full_any (c : UInt8) (w : World) : Calls Tryd.prog 12 #[.int .u8 c.toNat] w fun e w' => e = .returned (.agg (B8 (fullM c))) ∧ Below w.heap.size w w' := by
  obtain ⟨z, hz⟩ : ∃ z : Array Value, z = B8 (fullRow c 0) := ⟨_, rfl⟩
  go_enter Tryd.func12, Tryd.ntmps12
  go_wp2_with fail
  rw [show (#[Value.int .u8 0, .int .u8 0, .int .u8 0, .int .u8 0, .int .u8 0, .int .u8 0, .int .u8 0, .int .u8 0, .int .u8 0, .int .u8 0, .int .u8 0, .int .u8 0, .int .u8 0, .int .u8 0, .int .u8 0, .int .u8 0, .int .u8 0, .int .u8 0, .int .u8 0, .int .u8 0, .int .u8 0, .int .u8 0, .int .u8 0, .int .u8 0, .int .u8 0, .int .u8 0, .int .u8 0, .int .u8 0, .int .u8 0, .int .u8 0, .int .u8 0, .int .u8 0] : Array Value) = z from by rw [hz]; kernel_rfl]
  have hst : Lies ((w.alloc (.cells z 26)).alloc (.cells z 26)) w.heap.size z 26 ∧ Lies ((w.alloc (.cells z 26)).alloc (.cells z 26)) (w.heap.size + 1) (B8 (fullRow c 0)) 26 ∧ Below w.heap.size w ((w.alloc (.cells z 26)).alloc (.cells z 26)) := by
    rw [← hz]
    refine ⟨(Lies.new w z 26).alloc _, ?_, ((Below.refl _ _).alloc (Nat.le_refl _) _).alloc (by simp) _⟩
    have := Lies.new (w.alloc (.cells z 26)) z 26
    simpa using this
  have HST := Lib.hid hst
  clear hst
  generalize (w.alloc (.cells z 26)).alloc (.cells z 26) = W0 at HST ⊢
  go_loopw [4] (fun i W => ∃ j : Nat, j ≤ 32 ∧ i = .int .i64 j ∧ Lies W w.heap.size z 26 ∧ Lies W (w.heap.size + 1) (B8 (fullRow c j)) 26 ∧ Below w.heap.size w W) (fun i _ => 32 - (intOf i).toNat)
  case atStart => exact ⟨0, by omega, rfl, HST.out⟩
  case round =>
    obtain ⟨j, hj, rfl, h1, h2, hb⟩ := hrel
    by_cases hlt : j < 32
    · have m1 : (j : Int) < 32 := by omega
      have m0 : (0 : Int) ≤ (j : Int) := by omega
      have c2 := h2.cell j (B8_get _ j (by rw [fullRow_length c j (by omega)]; exact hlt))
      have f2 := h2.free j
      have hset := h2.set j (.int .u8 c.toNat)
      rw [B8_set, fullRow_set c j hlt] at hset
      have hR := Lib.hid (And.intro hlt (And.intro (h1.other ⟨w.heap.size + 1, j, none⟩ (.int .u8 c.toNat) (by show w.heap.size ≠ w.heap.size + 1; omega)) (And.intro hset (hb.setCell (p := ⟨w.heap.size + 1, j, none⟩) (by show w.heap.size ≤ w.heap.size + 1; omega) (.int .u8 c.toNat)))))
      generalize ((fullRow c j).getD j 0) = y at c2
      clear h1 h2 hb hset hlt hj
      go_wp2_with fail
      refine ⟨⟨j + 1, by have := hR.out.1; omega, rfl, hR.out.2⟩, ?_⟩
      have := hR.out.1
      simp [intOf]; omega
    · have hj2 : j = 32 := by omega
      rw [hj2, fullRow_all] at h2
      have HX := Lib.hid (And.intro h1 (And.intro h2 hb))
      have m1 : decide ((j : Int) < 32) = false := by simp; omega
      have hsz : (B8 (fullM c)).size = 32 := by rw [B8_size]; rfl
      clear h1 h2 hb hj2 hlt hj
      go_wp2_with (first
        | (refine wpList_load_row rfl 26 _ rfl (w.heap.size + 1) rfl 26 _ (0, 0) _ HX.out.2.1 Tryd.underlying26 rfl (by rw [hsz]; kernel_rfl) ?_)
        | (refine wpList_store_row rfl 26 _ _ rfl w.heap.size (B8 (fullM c)) rfl rfl 26 z HX.out.1 (by rw [hsz]; kernel_rfl) (by rw [hsz, hz, B8_size]; exact fullRow_length c 0 (by omega)) (B8_one _) ?_))
      refine bodyPost_ret (v := .agg (B8 (fullM c))) (results_cell_row (p := 2) (ty := 26) (by kernel_rfl) _ _ w.heap.size 26 (B8 (fullM c)) (0, 0) _ rfl (HX.out.1.setRow _) Tryd.underlying26 rfl (by rw [hsz]; kernel_rfl)) rfl ⟨rfl, ?_⟩
      exact below_setRow HX.out.2.2 _ _ (Nat.le_refl _)
/-- Two bytes, and a chain's hash: their hash. -/
theorem of_pair (w : World) (b p n : Nat) (h : List UInt8) (hh : h.length = 32) (hp : p < 256) (hn : n < 256) (hl : Src w b 0 h) (hbl : b < w.heap.size) (hs : Starts w) (hc : Cubes w) :
    Calls Tryd.prog 20 #[.slice (some ⟨w.heap.size + 1, 0, none⟩) 2 2] ((w.alloc (.cells #[.int .u8 n, .int .u8 p] 5)).alloc (.cells #[.slice (some ⟨w.heap.size, 0, none⟩) 2 2, .slice (some ⟨b, 0, none⟩) 32 32] 33))
      fun e w' => e = .returned (.agg (B8 (nextH n p h))) ∧ Below w.heap.size w w' := by
  have hb : Below w.heap.size w ((w.alloc (.cells #[.int .u8 n, .int .u8 p] 5)).alloc (.cells #[.slice (some ⟨w.heap.size, 0, none⟩) 2 2, .slice (some ⟨b, 0, none⟩) 32 32] 33)) := (((Below.refl _ _).alloc (Nat.le_refl _) _).alloc (by simp) _)
  have t1 : Lies ((w.alloc (.cells #[.int .u8 n, .int .u8 p] 5)).alloc (.cells #[.slice (some ⟨w.heap.size, 0, none⟩) 2 2, .slice (some ⟨b, 0, none⟩) 32 32] 33)) w.heap.size #[.int .u8 n, .int .u8 p] 5 := ((Lies.new w _ 5).alloc _)
  have t2 : Lies ((w.alloc (.cells #[.int .u8 n, .int .u8 p] 5)).alloc (.cells #[.slice (some ⟨w.heap.size, 0, none⟩) 2 2, .slice (some ⟨b, 0, none⟩) 32 32] 33)) (w.heap.size + 1) #[.slice (some ⟨w.heap.size, 0, none⟩) 2 2, .slice (some ⟨b, 0, none⟩) 32 32] 33 := by
    have := (Lies.new (w.alloc (.cells #[.int .u8 n, .int .u8 p] 5)) #[.slice (some ⟨w.heap.size, 0, none⟩) 2 2, .slice (some ⟨b, 0, none⟩) 32 32] 33)
    simpa using this
  have h1n : 1 < w.heap.size := Lies.lt hc
  have hl' : Src ((w.alloc (.cells #[.int .u8 n, .int .u8 p] 5)).alloc (.cells #[.slice (some ⟨w.heap.size, 0, none⟩) 2 2, .slice (some ⟨b, 0, none⟩) 32 32] 33)) b 0 h := fun j hj => (hb.cell (p := ⟨b, 0 + j, none⟩) hbl).trans (hl j hj)
  have hbl' : b < ((w.alloc (.cells #[.int .u8 n, .int .u8 p] 5)).alloc (.cells #[.slice (some ⟨w.heap.size, 0, none⟩) 2 2, .slice (some ⟨b, 0, none⟩) 32 32] 33)).heap.size := Nat.lt_of_lt_of_le hbl hb.size
  generalize ((w.alloc (.cells #[.int .u8 n, .int .u8 p] 5)).alloc (.cells #[.slice (some ⟨w.heap.size, 0, none⟩) 2 2, .slice (some ⟨b, 0, none⟩) 32 32] 33)) = W at hb t1 t2 hl' hbl' ⊢
  have hj : joined [⟨some ⟨w.heap.size, 0, none⟩, [UInt8.ofNat n, UInt8.ofNat p], 2⟩, ⟨some ⟨b, 0, none⟩, h, 32⟩] = [UInt8.ofNat n, UInt8.ofNat p] ++ h := by simp [joined]
  have main := of_any [⟨some ⟨w.heap.size, 0, none⟩, [UInt8.ofNat n, UInt8.ofNat p], 2⟩, ⟨some ⟨b, 0, none⟩, h, 32⟩] W (some ⟨w.heap.size + 1, 0, none⟩) 2 (by simp [maxLen]) ?_ ?_ (by rw [hj]; simp; omega) (hs.below hb (by omega)) (hc.below hb h1n)
  · rw [hj] at main
    refine main.mono ?_
    rintro e w3 ⟨rfl, hb3⟩
    exact ⟨rfl, hb.trans (hb3.mono hb.size)⟩
  · intro q hq
    rcases List.mem_cons.1 hq with rfl | hq
    · refine ⟨Nat.le_refl _, by simp [maxLen], fun _ => ⟨_, _, rfl, t1.lt, fun j hj => ?_⟩⟩
      have : j = 0 ∨ j = 1 := by simp at hj; omega
      rcases this with rfl | rfl
      · have := t1.cell 0 (v := .int .u8 n) rfl
        rw [this]; simp [Nat.mod_eq_of_lt hn]
      · have := t1.cell 1 (v := .int .u8 p) rfl
        rw [show 0 + 1 = 1 from rfl, this]; simp [Nat.mod_eq_of_lt hp]
    · obtain rfl : q = _ := by simpa using hq
      exact ⟨by simp [hh], by simp [maxLen], fun _ => ⟨_, _, rfl, hbl', hl'⟩⟩
  · intro _
    refine ⟨_, _, rfl, t2.lt, fun j hj => ?_⟩
    have : j = 0 ∨ j = 1 := by simp at hj; omega
    rcases this with rfl | rfl
    · exact t2.cell 0 rfl
    · have := t2.cell 1 (v := .slice (some ⟨b, 0, none⟩) 32 32) rfl
      rw [show 0 + 1 = 1 from rfl, this]; simp [Part.val, hh]
set_option maxRecDepth 100000 in
set_option maxHeartbeats 1000000 in
theorem next_any (h : List UInt8) (hh : h.length = 32) (n p : Nat) (hn : n < 256) (hp : p < 256) (w : World) (hs : Starts w) (hc : Cubes w) : Calls Tryd.prog 18 #[.agg (B8 h), .int .u8 n, .int .u8 p] w fun e w' => e = .returned (.agg (B8 (nextH n p h))) ∧ Below w.heap.size w w' := by
  obtain ⟨z, hz⟩ : ∃ z : Array Value, z = z32 := ⟨_, rfl⟩
  obtain ⟨h', hh'⟩ : ∃ h', h' = nextH n p h := ⟨_, rfl⟩
  have hl' : h'.length = 32 := by rw [hh']; exact nextH_length _ _ _
  obtain ⟨hv, hhv⟩ : ∃ hv, hv = B8 h := ⟨_, rfl⟩
  rw [← hh', ← hhv]
  have HH := Lib.hid (And.intro hh' (And.intro hl' hhv))
  have HSC := Lib.hid (And.intro hs hc)
  clear hh' hl' hs hc hhv
  go_enter Tryd.func18, Tryd.ntmps18
  go_upto_region 1 with fail
  rw [show (#[Value.int .u8 0, .int .u8 0, .int .u8 0, .int .u8 0, .int .u8 0, .int .u8 0, .int .u8 0, .int .u8 0, .int .u8 0, .int .u8 0, .int .u8 0, .int .u8 0, .int .u8 0, .int .u8 0, .int .u8 0, .int .u8 0, .int .u8 0, .int .u8 0, .int .u8 0, .int .u8 0, .int .u8 0, .int .u8 0, .int .u8 0, .int .u8 0, .int .u8 0, .int .u8 0, .int .u8 0, .int .u8 0, .int .u8 0, .int .u8 0, .int .u8 0, .int .u8 0] : Array Value) = z from by rw [hz]; kernel_rfl]
  have hA : Lies ((w.alloc (.cells hv 26)).alloc (.cells z 26)) w.heap.size hv 26 := (Lies.new w hv 26).alloc _
  have hB : Lies ((w.alloc (.cells hv 26)).alloc (.cells z 26)) (w.heap.size + 1) z 26 := by
    have := Lies.new (w.alloc (.cells hv 26)) z 26
    simpa using this
  have hb0 : Below w.heap.size w ((w.alloc (.cells hv 26)).alloc (.cells z 26)) := ((Below.refl _ _).alloc (Nat.le_refl _) _).alloc (by simp) _
  generalize (w.alloc (.cells hv 26)).alloc (.cells z 26) = W0 at hA hB hb0 ⊢
  have h1n := Lies.lt HSC.out.2
  have hsrc : Src W0 w.heap.size 0 h := fun j hj => by
    rw [Nat.zero_add, hA.cell j (by rw [HH.out.2.2]; exact B8_get h j hj)]
  have hof := of_pair W0 w.heap.size p n h hh hp hn hsrc hA.lt (HSC.out.1.below hb0 (by omega)) (HSC.out.2.below hb0 h1n)
  rw [show nextH n p h = h' from HH.out.1.symm] at hof
  have HOF := Lib.hid hof
  have H0 := Lib.hid (And.intro hB hb0)
  clear hof hsrc hA hB hb0 h1n
  go_wp2_with fail
  refine HOF.out.mono ?_
  rintro e w3 ⟨rfl, hb3⟩
  have hB3 := H0.out.1.below hb3 H0.out.1.lt
  have hb4 := H0.out.2.trans (hb3.mono H0.out.2.size)
  have hsz : (B8 h').size = 32 := by rw [B8_size]; exact HH.out.2.1
  have HZ := Lib.hid (And.intro hB3 hb4)
  clear hB3 hb4 hb3
  go_wp2_with (refine wpList_store_row rfl 26 _ _ rfl (w.heap.size + 1) (B8 h') rfl rfl 26 z HZ.out.1 (by rw [hsz]; kernel_rfl) (by rw [hsz, hz]; rfl) (B8_one _) ?_)
  refine bodyPost_ret (v := .agg (B8 h')) (results_cell_row (p := 6) (ty := 26) (by kernel_rfl) _ _ (w.heap.size + 1) 26 (B8 h') (0, 0) _ rfl (HZ.out.1.setRow _) Tryd.underlying26 rfl (by rw [hsz]; kernel_rfl)) rfl ⟨rfl, ?_⟩
  exact below_setRow HZ.out.2 _ _ (by omega)
end Go.Proofs.YtgempifedhiknaaDoor
