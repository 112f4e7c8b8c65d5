/-
  The hash of hashes, one behind the other (22).
-/
import Derived.Test.YtgempifedhiknaaGreatDoorWrow
namespace Go.Proofs.YtgempifedhiknaaGreatDoor
set_option maxRecDepth 100000
open Go.RowKit Sha

/-- The parts: the first j of 35 hashes. -/
def partV (g i : Nat) : Value := .slice (some ⟨g, i * 32, none⟩) 32 32
def partC (g j : Nat) : Array Value := ((List.range 35).map fun i => if i < j then partV g i else .slice none 0 0).toArray
theorem partC_size (g j : Nat) : (partC g j).size = 35 := by simp [partC]
theorem partC_zero (g : Nat) : partC g 0 = #[Value.slice none 0 0, .slice none 0 0, .slice none 0 0, .slice none 0 0, .slice none 0 0, .slice none 0 0, .slice none 0 0, .slice none 0 0, .slice none 0 0, .slice none 0 0, .slice none 0 0, .slice none 0 0, .slice none 0 0, .slice none 0 0, .slice none 0 0, .slice none 0 0, .slice none 0 0, .slice none 0 0, .slice none 0 0, .slice none 0 0, .slice none 0 0, .slice none 0 0, .slice none 0 0, .slice none 0 0, .slice none 0 0, .slice none 0 0, .slice none 0 0, .slice none 0 0, .slice none 0 0, .slice none 0 0, .slice none 0 0, .slice none 0 0, .slice none 0 0, .slice none 0 0, .slice none 0 0] := by kernel_rfl
theorem partC_set (g j : Nat) (_hj : j < 35) : (partC g j).setIfInBounds j (partV g j) = partC g (j + 1) := by
  unfold partC
  rw [List.setIfInBounds_toArray]
  congr 1
  apply List.ext_getElem?
  intro i
  by_cases hi : i < 35
  · rw [List.getElem?_set]
    by_cases e : j = i
    · subst e
      simp [hi]
    · have h2 : (i < j + 1) ↔ (i < j) := by omega
      simp [e, h2, List.getElem?_map, List.getElem?_range hi]
  · rw [List.getElem?_eq_none (by simp; omega), List.getElem?_eq_none (by simp; omega)]
theorem partC_get (g j i : Nat) (hi : i < 35) (hj : i < j) : (partC g j)[i]? = some (partV g i) := by
  simp [partC, hi, hj]
def partsOf (g : Nat) (F : List UInt8) : List Part := (List.range 35).map fun i => ⟨some ⟨g, i * 32, none⟩, (F.drop (i * 32)).take 32, 32⟩
theorem joined_parts (g : Nat) (F : List UInt8) : ∀ n, F.length = 32 * n → ((List.range n).map fun i => (⟨some ⟨g, i * 32, none⟩, (F.drop (i * 32)).take 32, 32⟩ : Part)).flatMap (·.xs) = F := by
  have : ∀ n, 32 * n ≤ F.length → ((List.range n).map fun i => (⟨some ⟨g, i * 32, none⟩, (F.drop (i * 32)).take 32, 32⟩ : Part)).flatMap (·.xs) = F.take (n * 32) := by
    intro n
    induction n with
    | zero => intro _; simp
    | succ n ih =>
      intro h
      rw [List.range_succ, List.map_append, List.flatMap_append, ih (by omega), show (n + 1) * 32 = n * 32 + 32 by omega, List.take_add]
      simp
  intro n hn
  rw [this n (by omega), List.take_of_length_le (by omega)]
theorem make35 (w : World) : (Instr.makeSlice 62 (.int .i64 35) (.int .i64 35)).run Tryz.prog w = .ok (.slice (some ⟨w.heap.size, 0, none⟩) 35 35) (w.alloc (.cells (partC 0 0) 22)) := by kernel_rfl
theorem info26d : (Tryz.prog.info? 24).map (·.size) = some 32 := by kernel_rfl
set_option maxRecDepth 100000 in
set_option maxHeartbeats 1000000 in
theorem together_any (w : World) (g cap : Nat) (F : List UInt8) (hF : F.length = 1120) (hsrc : Src w g 0 F) (hg : g < w.heap.size) (hs : Starts w) (hc : Cubes w) :
    Calls Tryz.prog 21 #[.slice (some ⟨g, 0, none⟩) 35 cap] w fun e w' => e = .returned (.agg (B8 (sha F))) ∧ Below w.heap.size w w' := by
  obtain ⟨z, hz⟩ : ∃ z : Array Value, z = z32 := ⟨_, rfl⟩
  obtain ⟨h', hh'⟩ : ∃ h', h' = sha F := ⟨_, rfl⟩
  have hl' : h'.length = 32 := by rw [hh']; exact sha_len _
  rw [← hh']
  have HF := Lib.hid (And.intro hF (And.intro hsrc hg))
  have HSC := Lib.hid (And.intro hs hc)
  have HH := Lib.hid (And.intro hh' hl')
  clear hF hsrc hg hs hc hh' hl'
  go_enter Tryz.func21, Tryz.ntmps21
  go_upto_region 1 with fail
  rw [show (#[Value.int .u8 0, .int .u8 0, .int .u8 0, .int .u8 0, .int .u8 0, .int .u8 0, .int .u8 0, .int .u8 0, .int .u8 0, .int .u8 0, .int .u8 0, .int .u8 0, .int .u8 0, .int .u8 0, .int .u8 0, .int .u8 0, .int .u8 0, .int .u8 0, .int .u8 0, .int .u8 0, .int .u8 0, .int .u8 0, .int .u8 0, .int .u8 0, .int .u8 0, .int .u8 0, .int .u8 0, .int .u8 0, .int .u8 0, .int .u8 0, .int .u8 0, .int .u8 0] : Array Value) = z from by rw [hz]; kernel_rfl]
  have hz0 : Lies (w.alloc (.cells z 24)) w.heap.size z 24 := Lies.new _ _ _
  have hb0 : Below w.heap.size w (w.alloc (.cells z 24)) := (Below.refl _ _).alloc (Nat.le_refl _) _
  have hs0 : (w.alloc (.cells z 24)).heap.size = w.heap.size + 1 := by simp
  generalize w.alloc (.cells z 24) = W0 at hz0 hb0 hs0 ⊢
  have hm := make35 W0
  rw [show partC 0 0 = partC g 0 from by rw [partC_zero, partC_zero]] at hm
  have hst : Lies (W0.alloc (.cells (partC g 0) 22)) W0.heap.size (partC g 0) 22 ∧ Lies (W0.alloc (.cells (partC g 0) 22)) w.heap.size z 24 ∧ Below w.heap.size w (W0.alloc (.cells (partC g 0) 22)) := by
    exact ⟨Lies.new _ _ _, hz0.alloc _, hb0.alloc hb0.size _⟩
  have HST := Lib.hid hst
  have HM := Lib.hid hs0
  clear hst hs0 hz0 hb0
  go_wp2_with fail
  clear hm
  generalize W0.alloc (.cells (partC g 0) 22) = W1 at HST ⊢
  rw [HM.out] at HST ⊢
  go_loopw [10] (fun i W => ∃ j : Nat, j ≤ 35 ∧ i = .int .i64 j ∧ Lies W (w.heap.size + 1) (partC g j) 22 ∧ Lies W w.heap.size z 24 ∧ Below w.heap.size w W) (fun i _ => 35 - (intOf i).toNat)
  case atStart => exact ⟨0, by omega, rfl, HST.out⟩
  case round =>
    obtain ⟨j, hj, rfl, hl, hzl, hb⟩ := hrel
    by_cases hlt : j < 35
    · have m1 : (j : Int) < 35 := by omega
      have m0 : (0 : Int) ≤ (j : Int) := by omega
      have c1 : wr.cell? ⟨w.heap.size + 1, j, none⟩ = some (.slice none 0 0) := hl.cell j (by simp [partC, hlt])
      have f1 := hl.free j
      have hset := hl.set j (partV g j)
      rw [partC_set g j hlt] at hset
      have hz2 : Lies (wr.setCell ⟨w.heap.size + 1, j, none⟩ (partV g j)) w.heap.size z 24 := hzl.other _ _ (by show w.heap.size ≠ w.heap.size + 1; omega)
      have hb2 : Below w.heap.size w (wr.setCell ⟨w.heap.size + 1, j, none⟩ (partV g j)) := hb.setCell (p := ⟨w.heap.size + 1, j, none⟩) (by simp) _
      have HR := Lib.hid (And.intro hlt (And.intro hset (And.intro hz2 hb2)))
      clear hset hz2 hb2 hl hzl hb hlt hj
      go_wp2_with fail
      refine ⟨⟨j + 1, by have := HR.out.1; omega, rfl, HR.out.2⟩, ?_⟩
      have := HR.out.1
      simp [intOf]; omega
    · have hj2 : j = 35 := by omega
      subst hj2
      go_wp2_with fail
      have hof := of_any (partsOf g F) wr (some ⟨w.heap.size + 1, 0, none⟩) 35 (by simp [partsOf, maxLen]) ?hgood ?hv ?hlen ?hs1 ?hc1
      case hgood =>
        intro p hp
        obtain ⟨i, hi, rfl⟩ := List.mem_map.1 hp
        have hi35 : i < 35 := by simpa using hi
        have hlen : ((F.drop (i * 32)).take 32).length = 32 := by rw [List.length_take, List.length_drop]; have := HF.out.1; omega
        refine ⟨by rw [hlen]; exact Nat.le_refl _, by simp [maxLen], fun _ => ⟨g, i * 32, rfl, by have := HF.out.2.2; have := hb.size; omega, fun q hq => ?_⟩⟩
        have hq2 : q < 32 := by rw [hlen] at hq; exact hq
        have := HF.out.2.1 (i * 32 + q) (by have := HF.out.1; omega)
        rw [Nat.zero_add] at this
        rw [hb.cell (p := ⟨g, i * 32 + q, none⟩) HF.out.2.2, this]
        simp only [List.getD_eq_getElem?_getD]
        rw [List.getElem?_take_of_lt hq2, List.getElem?_drop]
      case hv =>
        intro _
        refine ⟨_, _, rfl, hl.lt, fun q hq => ?_⟩
        have hq2 : q < 35 := by simpa [partsOf] using hq
        rw [Nat.zero_add, hl.cell q (partC_get g 35 q hq2 hq2)]
        simp only [List.getD_eq_getElem?_getD]
        have hlen : ((F.drop (q * 32)).take 32).length = 32 := by rw [List.length_take, List.length_drop]; have := HF.out.1; omega
        simp [partsOf, List.getElem?_map, List.getElem?_range hq2, Part.val, partV]
        have := HF.out.1
        omega
      case hlen => rw [show joined (partsOf g F) = F from joined_parts g F 35 HF.out.1, HF.out.1]; omega
      case hs1 => exact HSC.out.1.below hb (by have := Lies.lt HSC.out.2; omega)
      case hc1 => exact HSC.out.2.below hb (Lies.lt HSC.out.2)
      rw [show joined (partsOf g F) = F from joined_parts g F 35 HF.out.1, ← HH.out.1] at hof
      have hp35 : (partsOf g F).length = 35 := by simp [partsOf]
      rw [hp35] at hof
      refine hof.mono ?_
      rintro e w3 ⟨rfl, hb3⟩
      have hzl3 := hzl.below hb3 hzl.lt
      have hb4 := hb.trans (hb3.mono hb.size)
      have hsz : (B8 h').size = 32 := by rw [B8_size]; exact HH.out.2
      have HZ := Lib.hid (And.intro hzl3 hb4)
      clear hof hzl hl hb hb3 hzl3 hb4 hp35
      go_wp2_with (refine wpList_store_row rfl 24 _ _ rfl w.heap.size (B8 h') rfl rfl 24 z HZ.out.1 (by rw [hsz]; kernel_rfl) (by rw [hsz, hz]; rfl) (B8_one _) ?_)
      refine bodyPost_ret (v := .agg (B8 h')) (results_cell_row (p := 2) (ty := 24) (by kernel_rfl) _ _ w.heap.size 24 (B8 h') (0, 0) _ rfl (HZ.out.1.setRow _) Tryz.underlying24 rfl (by rw [hsz]; kernel_rfl)) rfl ⟨rfl, ?_⟩
      exact below_setRow HZ.out.2 _ _ (Nat.le_refl _)
end Go.Proofs.YtgempifedhiknaaGreatDoor
