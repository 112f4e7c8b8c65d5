/-
  What the laws of wots call besides: a message of one byte (12), the next hash (18).
  The owner of what a seed signs is its key. Hashes compared.
-/
import Derived.Test.YtgempifedhiknaaGreatDoorWsign
import Derived.Test.YtgempifedhiknaaGreatDoorSameW
namespace Go.Proofs.YtgempifedhiknaaGreatDoor
set_option maxRecDepth 100000
open Go.RowKit Go.Shelf Sha

def fullRow (c : UInt8) (j : Nat) : List UInt8 := List.replicate j c ++ List.replicate (32 - j) 0
theorem fullRow_length (c : UInt8) (j : Nat) (hj : j ≤ 32) : (fullRow c j).length = 32 := by simp [fullRow]; omega
theorem fullRow_set (c : UInt8) (j : Nat) (hj : j < 32) : (fullRow c j).set j c = fullRow c (j + 1) := by
  unfold fullRow
  rw [List.set_append_right _ _ (by simp), List.length_replicate, Nat.sub_self, show 32 - j = (32 - (j + 1)) + 1 by omega, List.replicate_succ, List.set_cons_zero, List.replicate_succ', List.append_assoc]
  rfl
def fullM (c : UInt8) : List UInt8 := List.replicate 32 c
theorem fullRow_all (c : UInt8) : fullRow c 32 = fullM c := by simp [fullRow, fullM]
set_option maxRecDepth 100000 in
set_option maxHeartbeats 1000000 in
theorem full_any (c : UInt8) (w : World) : Calls Tryz.prog 11 #[.int .u8 c.toNat] w fun e w' => e = .returned (.agg (B8 (fullM c))) ∧ Below w.heap.size w w' := by
  obtain ⟨z, hz⟩ : ∃ z : Array Value, z = B8 (fullRow c 0) := ⟨_, rfl⟩
  go_enter Tryz.func11, Tryz.ntmps11
  go_wp2_with fail
  rw [show (#[Value.int .u8 0, .int .u8 0, .int .u8 0, .int .u8 0, .int .u8 0, .int .u8 0, .int .u8 0, .int .u8 0, .int .u8 0, .int .u8 0, .int .u8 0, .int .u8 0, .int .u8 0, .int .u8 0, .int .u8 0, .int .u8 0, .int .u8 0, .int .u8 0, .int .u8 0, .int .u8 0, .int .u8 0, .int .u8 0, .int .u8 0, .int .u8 0, .int .u8 0, .int .u8 0, .int .u8 0, .int .u8 0, .int .u8 0, .int .u8 0, .int .u8 0, .int .u8 0] : Array Value) = z from by rw [hz]; kernel_rfl]
  have hst : Lies ((w.alloc (.cells z 24)).alloc (.cells z 24)) w.heap.size z 24 ∧ Lies ((w.alloc (.cells z 24)).alloc (.cells z 24)) (w.heap.size + 1) (B8 (fullRow c 0)) 24 ∧ Below w.heap.size w ((w.alloc (.cells z 24)).alloc (.cells z 24)) := by
    rw [← hz]
    refine ⟨(Lies.new w z 24).alloc _, ?_, ((Below.refl _ _).alloc (Nat.le_refl _) _).alloc (by simp) _⟩
    have := Lies.new (w.alloc (.cells z 24)) z 24
    simpa using this
  have HST := Lib.hid hst
  clear hst
  generalize (w.alloc (.cells z 24)).alloc (.cells z 24) = W0 at HST ⊢
  go_loopw [4] (fun i W => ∃ j : Nat, j ≤ 32 ∧ i = .int .i64 j ∧ Lies W w.heap.size z 24 ∧ Lies W (w.heap.size + 1) (B8 (fullRow c j)) 24 ∧ Below w.heap.size w W) (fun i _ => 32 - (intOf i).toNat)
  case atStart => exact ⟨0, by omega, rfl, HST.out⟩
  case round =>
    obtain ⟨j, hj, rfl, h1, h2, hb⟩ := hrel
    by_cases hlt : j < 32
    · have m1 : (j : Int) < 32 := by omega
      have m0 : (0 : Int) ≤ (j : Int) := by omega
      have c2 := h2.cell j (B8_get _ j (by rw [fullRow_length c j (by omega)]; exact hlt))
      have f2 := h2.free j
      have hset := h2.set j (.int .u8 c.toNat)
      rw [B8_set, fullRow_set c j hlt] at hset
      have hR := Lib.hid (And.intro hlt (And.intro (h1.other ⟨w.heap.size + 1, j, none⟩ (.int .u8 c.toNat) (by show w.heap.size ≠ w.heap.size + 1; omega)) (And.intro hset (hb.setCell (p := ⟨w.heap.size + 1, j, none⟩) (by show w.heap.size ≤ w.heap.size + 1; omega) (.int .u8 c.toNat)))))
      generalize ((fullRow c j).getD j 0) = y at c2
      clear h1 h2 hb hset hlt hj
      go_wp2_with fail
      refine ⟨⟨j + 1, by have := hR.out.1; omega, rfl, hR.out.2⟩, ?_⟩
      have := hR.out.1
      simp [intOf]; omega
    · have hj2 : j = 32 := by omega
      rw [hj2, fullRow_all] at h2
      have HX := Lib.hid (And.intro h1 (And.intro h2 hb))
      have m1 : decide ((j : Int) < 32) = false := by simp; omega
      have hsz : (B8 (fullM c)).size = 32 := by rw [B8_size]; rfl
      clear h1 h2 hb hj2 hlt hj
      go_wp2_with (first
        | (refine wpList_load_row rfl 24 _ rfl (w.heap.size + 1) rfl 24 _ (0, 0) _ HX.out.2.1 Tryz.underlying24 rfl (by rw [hsz]; kernel_rfl) ?_)
        | (refine wpList_store_row rfl 24 _ _ rfl w.heap.size (B8 (fullM c)) rfl rfl 24 z HX.out.1 (by rw [hsz]; kernel_rfl) (by rw [hsz, hz, B8_size]; exact fullRow_length c 0 (by omega)) (B8_one _) ?_))
      refine bodyPost_ret (v := .agg (B8 (fullM c))) (results_cell_row (p := 2) (ty := 24) (by kernel_rfl) _ _ w.heap.size 24 (B8 (fullM c)) (0, 0) _ rfl (HX.out.1.setRow _) Tryz.underlying24 rfl (by rw [hsz]; kernel_rfl)) rfl ⟨rfl, ?_⟩
      exact below_setRow HX.out.2.2 _ _ (Nat.le_refl _)
/-- Two bytes, and a chain's hash: their hash. -/
theorem of_pair (w : World) (b p n : Nat) (h : List UInt8) (hh : h.length = 32) (hp : p < 256) (hn : n < 256) (hl : Src w b 0 h) (hbl : b < w.heap.size) (hs : Starts w) (hc : Cubes w) :
    Calls Tryz.prog 12 #[.slice (some ⟨w.heap.size + 1, 0, none⟩) 2 2] ((w.alloc (.cells #[.int .u8 n, .int .u8 p] 5)).alloc (.cells #[.slice (some ⟨w.heap.size, 0, none⟩) 2 2, .slice (some ⟨b, 0, none⟩) 32 32] 22))
      fun e w' => e = .returned (.agg (B8 (nextH n p h))) ∧ Below w.heap.size w w' := by
  have hb : Below w.heap.size w ((w.alloc (.cells #[.int .u8 n, .int .u8 p] 5)).alloc (.cells #[.slice (some ⟨w.heap.size, 0, none⟩) 2 2, .slice (some ⟨b, 0, none⟩) 32 32] 22)) := (((Below.refl _ _).alloc (Nat.le_refl _) _).alloc (by simp) _)
  have t1 : Lies ((w.alloc (.cells #[.int .u8 n, .int .u8 p] 5)).alloc (.cells #[.slice (some ⟨w.heap.size, 0, none⟩) 2 2, .slice (some ⟨b, 0, none⟩) 32 32] 22)) w.heap.size #[.int .u8 n, .int .u8 p] 5 := ((Lies.new w _ 5).alloc _)
  have t2 : Lies ((w.alloc (.cells #[.int .u8 n, .int .u8 p] 5)).alloc (.cells #[.slice (some ⟨w.heap.size, 0, none⟩) 2 2, .slice (some ⟨b, 0, none⟩) 32 32] 22)) (w.heap.size + 1) #[.slice (some ⟨w.heap.size, 0, none⟩) 2 2, .slice (some ⟨b, 0, none⟩) 32 32] 22 := by
    have := (Lies.new (w.alloc (.cells #[.int .u8 n, .int .u8 p] 5)) #[.slice (some ⟨w.heap.size, 0, none⟩) 2 2, .slice (some ⟨b, 0, none⟩) 32 32] 22)
    simpa using this
  have h1n : 1 < w.heap.size := Lies.lt hc
  have hl' : Src ((w.alloc (.cells #[.int .u8 n, .int .u8 p] 5)).alloc (.cells #[.slice (some ⟨w.heap.size, 0, none⟩) 2 2, .slice (some ⟨b, 0, none⟩) 32 32] 22)) b 0 h := fun j hj => (hb.cell (p := ⟨b, 0 + j, none⟩) hbl).trans (hl j hj)
  have hbl' : b < ((w.alloc (.cells #[.int .u8 n, .int .u8 p] 5)).alloc (.cells #[.slice (some ⟨w.heap.size, 0, none⟩) 2 2, .slice (some ⟨b, 0, none⟩) 32 32] 22)).heap.size := Nat.lt_of_lt_of_le hbl hb.size
  generalize ((w.alloc (.cells #[.int .u8 n, .int .u8 p] 5)).alloc (.cells #[.slice (some ⟨w.heap.size, 0, none⟩) 2 2, .slice (some ⟨b, 0, none⟩) 32 32] 22)) = W at hb t1 t2 hl' hbl' ⊢
  have hj : joined [⟨some ⟨w.heap.size, 0, none⟩, [UInt8.ofNat n, UInt8.ofNat p], 2⟩, ⟨some ⟨b, 0, none⟩, h, 32⟩] = [UInt8.ofNat n, UInt8.ofNat p] ++ h := by simp [joined]
  have main := of_any [⟨some ⟨w.heap.size, 0, none⟩, [UInt8.ofNat n, UInt8.ofNat p], 2⟩, ⟨some ⟨b, 0, none⟩, h, 32⟩] W (some ⟨w.heap.size + 1, 0, none⟩) 2 (by simp [maxLen]) ?_ ?_ (by rw [hj]; simp; omega) (hs.below hb (by omega)) (hc.below hb h1n)
  · rw [hj] at main
    refine main.mono ?_
    rintro e w3 ⟨rfl, hb3⟩
    exact ⟨rfl, hb.trans (hb3.mono hb.size)⟩
  · intro q hq
    rcases List.mem_cons.1 hq with rfl | hq
    · refine ⟨Nat.le_refl _, by simp [maxLen], fun _ => ⟨_, _, rfl, t1.lt, fun j hj => ?_⟩⟩
      have : j = 0 ∨ j = 1 := by simp at hj; omega
      rcases this with rfl | rfl
      · have := t1.cell 0 (v := .int .u8 n) rfl
        rw [this]; simp [Nat.mod_eq_of_lt hn]
      · have := t1.cell 1 (v := .int .u8 p) rfl
        rw [show 0 + 1 = 1 from rfl, this]; simp [Nat.mod_eq_of_lt hp]
    · obtain rfl : q = _ := by simpa using hq
      exact ⟨by simp [hh], by simp [maxLen], fun _ => ⟨_, _, rfl, hbl', hl'⟩⟩
  · intro _
    refine ⟨_, _, rfl, t2.lt, fun j hj => ?_⟩
    have : j = 0 ∨ j = 1 := by simp at hj; omega
    rcases this with rfl | rfl
    · exact t2.cell 0 rfl
    · have := t2.cell 1 (v := .slice (some ⟨b, 0, none⟩) 32 32) rfl
      rw [show 0 + 1 = 1 from rfl, this]; simp [Part.val, hh]
set_option maxRecDepth 100000 in
set_option maxHeartbeats 1000000 in
theorem next_any (h : List UInt8) (hh : h.length = 32) (n p : Nat) (hn : n < 256) (hp : p < 256) (w : World) (hs : Starts w) (hc : Cubes w) : Calls Tryz.prog 14 #[.agg (B8 h), .int .u8 n, .int .u8 p] w fun e w' => e = .returned (.agg (B8 (nextH n p h))) ∧ Below w.heap.size w w' := by
  obtain ⟨z, hz⟩ : ∃ z : Array Value, z = z32 := ⟨_, rfl⟩
  obtain ⟨h', hh'⟩ : ∃ h', h' = nextH n p h := ⟨_, rfl⟩
  have hl' : h'.length = 32 := by rw [hh']; exact nextH_length _ _ _
  obtain ⟨hv, hhv⟩ : ∃ hv, hv = B8 h := ⟨_, rfl⟩
  rw [← hh', ← hhv]
  have HH := Lib.hid (And.intro hh' (And.intro hl' hhv))
  have HSC := Lib.hid (And.intro hs hc)
  clear hh' hl' hs hc hhv
  go_enter Tryz.func14, Tryz.ntmps14
  go_upto_region 1 with fail
  rw [show (#[Value.int .u8 0, .int .u8 0, .int .u8 0, .int .u8 0, .int .u8 0, .int .u8 0, .int .u8 0, .int .u8 0, .int .u8 0, .int .u8 0, .int .u8 0, .int .u8 0, .int .u8 0, .int .u8 0, .int .u8 0, .int .u8 0, .int .u8 0, .int .u8 0, .int .u8 0, .int .u8 0, .int .u8 0, .int .u8 0, .int .u8 0, .int .u8 0, .int .u8 0, .int .u8 0, .int .u8 0, .int .u8 0, .int .u8 0, .int .u8 0, .int .u8 0, .int .u8 0] : Array Value) = z from by rw [hz]; kernel_rfl]
  have hA : Lies ((w.alloc (.cells hv 24)).alloc (.cells z 24)) w.heap.size hv 24 := (Lies.new w hv 24).alloc _
  have hB : Lies ((w.alloc (.cells hv 24)).alloc (.cells z 24)) (w.heap.size + 1) z 24 := by
    have := Lies.new (w.alloc (.cells hv 24)) z 24
    simpa using this
  have hb0 : Below w.heap.size w ((w.alloc (.cells hv 24)).alloc (.cells z 24)) := ((Below.refl _ _).alloc (Nat.le_refl _) _).alloc (by simp) _
  generalize (w.alloc (.cells hv 24)).alloc (.cells z 24) = W0 at hA hB hb0 ⊢
  have h1n := Lies.lt HSC.out.2
  have hsrc : Src W0 w.heap.size 0 h := fun j hj => by
    rw [Nat.zero_add, hA.cell j (by rw [HH.out.2.2]; exact B8_get h j hj)]
  have hof := of_pair W0 w.heap.size p n h hh hp hn hsrc hA.lt (HSC.out.1.below hb0 (by omega)) (HSC.out.2.below hb0 h1n)
  rw [show nextH n p h = h' from HH.out.1.symm] at hof
  have HOF := Lib.hid hof
  have H0 := Lib.hid (And.intro hB hb0)
  clear hof hsrc hA hB hb0 h1n
  go_wp2_with fail
  refine HOF.out.mono ?_
  rintro e w3 ⟨rfl, hb3⟩
  have hB3 := H0.out.1.below hb3 H0.out.1.lt
  have hb4 := H0.out.2.trans (hb3.mono H0.out.2.size)
  have hsz : (B8 h').size = 32 := by rw [B8_size]; exact HH.out.2.1
  have HZ := Lib.hid (And.intro hB3 hb4)
  clear hB3 hb4 hb3
  go_wp2_with (refine wpList_store_row rfl 24 _ _ rfl (w.heap.size + 1) (B8 h') rfl rfl 24 z HZ.out.1 (by rw [hsz]; kernel_rfl) (by rw [hsz, hz]; rfl) (B8_one _) ?_)
  refine bodyPost_ret (v := .agg (B8 h')) (results_cell_row (p := 6) (ty := 24) (by kernel_rfl) _ _ (w.heap.size + 1) 24 (B8 h') (0, 0) _ rfl (HZ.out.1.setRow _) Tryz.underlying24 rfl (by rw [hsz]; kernel_rfl)) rfl ⟨rfl, ?_⟩
  exact below_setRow HZ.out.2 _ _ (by omega)
end Go.Proofs.YtgempifedhiknaaGreatDoor
namespace Go.Proofs.YtgempifedhiknaaGreatDoor
set_option maxRecDepth 100000
open Go.RowKit Go.Shelf Sha

theorem flat_len (f : Nat → List UInt8) (hf : ∀ i, (f i).length = 32) : ∀ n, ((List.range n).flatMap f).length = 32 * n
  | 0 => rfl
  | n + 1 => by rw [List.range_succ, List.flatMap_append, List.length_append, flat_len f hf n]; simp [hf]; omega
theorem flat_block (f : Nat → List UInt8) (hf : ∀ i, (f i).length = 32) : ∀ n i, i < n → (((List.range n).flatMap f).drop (i * 32)).take 32 = f i
  | 0, i, h => by omega
  | n + 1, i, h => by
    have hl := flat_len f hf n
    rw [List.range_succ, List.flatMap_append]
    by_cases hi : i < n
    · rw [List.drop_append_of_le_length (by omega), List.take_append_of_le_length (by rw [List.length_drop]; omega)]
      exact flat_block f hf n i hi
    · obtain rfl : i = n := by omega
      rw [List.drop_append, List.drop_of_length_le (by omega), hl, show i * 32 - 32 * i = 0 by omega]
      simp [hf, List.take_of_length_le]
theorem signL_length (xs m : List UInt8) : (signL xs m).length = 1120 := flat_len _ (sigH_length xs m) 35
theorem hashAt_sign (xs m : List UInt8) (i : Nat) (hi : i < 35) : hashAt (signL xs m) i = sigH xs m i := by
  unfold hashAt
  rw [if_pos hi]
  exact flat_block _ (sigH_length xs m) 35 i hi
theorem placeAt_dig (m : List UInt8) (i : Nat) (hi : i < 35) : placeAt (digRow m 35) i = digit m i := by
  have := digit_le m i
  unfold placeAt digRow
  simp [List.getD_eq_getElem?_getD, hi]
  omega
theorem end_sign (xs m : List UInt8) (i : Nat) (hi : i < 35) : endH (hashAt (signL xs m)) (placeAt (digRow m 35)) i = endH (firstH xs) (fun _ => 0) i := by
  unfold endH
  rw [hashAt_sign xs m i hi, placeAt_dig m i hi]
  unfold sigH
  have hd := digit_le m i
  have := onN_add i 0 (digit m i) (firstH xs i) (15 - digit m i)
  rw [Nat.zero_add] at this
  rw [this]
  show onN i 0 (digit m i + (15 - digit m i)) (firstH xs i) = onN i 0 (15 - 0) (firstH xs i)
  congr 1
  omega
/-- What signs is the owner. -/
theorem owner_sign (xs m : List UInt8) : ownerH (signL xs m) m = keyH xs := by
  unfold ownerH keyH
  congr 1
  unfold allEnds
  rw [List.flatMap_def, List.flatMap_def, List.map_congr_left fun i hi => end_sign xs m i (by simpa using hi)]
end Go.Proofs.YtgempifedhiknaaGreatDoor
