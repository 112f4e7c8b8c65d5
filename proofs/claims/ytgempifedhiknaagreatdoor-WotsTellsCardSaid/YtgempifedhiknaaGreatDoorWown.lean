/-
  The owner of a signature (9).
-/
import Derived.Test.YtgempifedhiknaaGreatDoorWkey
import Derived.Test.YtgempifedhiknaaGreatDoorWsig
import Derived.Test.YtgempifedhiknaaGreatDoorWdig
import Derived.Laws.ResultCell
namespace Go.Proofs.YtgempifedhiknaaGreatDoor
set_option maxRecDepth 100000
open Go.RowKit Go.Shelf Sha

set_option maxHeartbeats 1000000 in
theorem signed_any (w : World) (v : Value) (hv : ∃ a n c, v = .slice a n c) (D : List UInt8) : Calls Tryz.prog 29 #[v, .agg (B8 D)] w fun e w' => e = .returned (.func (.func 65) #[] #[.pointer (some ⟨w.heap.size, 0, none⟩), .pointer (some ⟨w.heap.size + 1, 0, none⟩)]) ∧ w' = (w.alloc (.cells #[v] 26)).alloc (.cells (B8 D) 40) := by
  obtain ⟨a, n, c, rfl⟩ := hv
  go_enter Tryz.func29, Tryz.ntmps29
  go_wp2_with fail
  go_ret
  exact ⟨rfl, rfl⟩
theorem signed_stops (n B1 B2 g cap n₀ b0 : Nat) (F D : List UInt8) (hF : F.length = 1120) (hD : D.length = 35) (w : World)
    (h1 : w.cell? ⟨B1, 0, none⟩ = some (.slice (some ⟨g, 0, none⟩) 35 cap)) (h2 : Lies w B2 (B8 D) 40) (hsrc : Src w g 0 F) (hb1 : B1 < n₀ ∧ B1 ≠ b0) (hb2 : B2 < n₀ ∧ B2 ≠ b0) (hg : g < n₀ ∧ g ≠ b0) (hn0 : n₀ ≤ w.heap.size) :
    Stops n 65 #[.pointer (some ⟨B1, 0, none⟩), .pointer (some ⟨B2, 0, none⟩)] (hashAt F) (placeAt D) n₀ b0 w := fun l J Jx W hW hJ _ hY h0 => by
  have hk : KB n₀ b0 w W := KB.below hW hn0
  exact signed1_in n l B1 B2 g cap n₀ b0 F D hF hD J Jx W hJ hY ((hk.cell ⟨B1, 0, none⟩ hb1.1 hb1.2).trans h1) (hk.lies h2 hb2.1 hb2.2) (fun j hj => (hk.cell ⟨g, 0 + j, none⟩ hg.1 hg.2).trans (hsrc j hj)) hb1 hb2 hg (Nat.le_trans hn0 hW.size) h0
/-- The owner of a signature whose hashes are F, for a message. -/
def ownerH (F m : List UInt8) : List UInt8 := sha (allEnds (hashAt F) (placeAt (digRow m 35)))
theorem ownerH_length (F m : List UInt8) : (ownerH F m).length = 32 := sha_len _
theorem placeAt_le (m : List UInt8) (i : Nat) : placeAt (digRow m 35) i ≤ 15 := by
  unfold placeAt digRow
  by_cases h : i < 35
  · have := digit_le m i
    simp [List.getD_eq_getElem?_getD, h]
    omega
  · rw [List.getD_eq_getElem?_getD, List.getElem?_eq_none (by simp; omega)]
    simp
theorem ends_signed (w : World) (g cap : Nat) (F m : List UInt8) (hF : F.length = 1120) (hg : g < w.heap.size) (hsrc : Src w g 0 F) (hs : Starts w) (hc : Cubes w) :
    Calls Tryz.prog 22 #[.func (.func 65) #[] #[.pointer (some ⟨w.heap.size, 0, none⟩), .pointer (some ⟨w.heap.size + 1, 0, none⟩)]] ((w.alloc (.cells #[.slice (some ⟨g, 0, none⟩) 35 cap] 26)).alloc (.cells (B8 (digRow m 35)) 40)) fun e w' => ∃ v, e = .returned v ∧ Below w.heap.size w w' ∧
      RowH (w.heap.size + 1) 35 (allEnds (hashAt F) (placeAt (digRow m 35))) v w' := by
  have hb : Below w.heap.size w ((w.alloc (.cells #[.slice (some ⟨g, 0, none⟩) 35 cap] 26)).alloc (.cells (B8 (digRow m 35)) 40)) := ((Below.refl _ _).alloc (Nat.le_refl _) _).alloc (by simp) _
  have hl1 : Lies ((w.alloc (.cells #[.slice (some ⟨g, 0, none⟩) 35 cap] 26)).alloc (.cells (B8 (digRow m 35)) 40)) w.heap.size #[.slice (some ⟨g, 0, none⟩) 35 cap] 26 := (Lies.new _ _ _).alloc _
  have hl2 : Lies ((w.alloc (.cells #[.slice (some ⟨g, 0, none⟩) 35 cap] 26)).alloc (.cells (B8 (digRow m 35)) 40)) (w.heap.size + 1) (B8 (digRow m 35)) 40 := by
    have := Lies.new (w.alloc (.cells #[.slice (some ⟨g, 0, none⟩) 35 cap] 26)) (B8 (digRow m 35)) 40
    simpa using this
  have hsz : ((w.alloc (.cells #[.slice (some ⟨g, 0, none⟩) 35 cap] 26)).alloc (.cells (B8 (digRow m 35)) 40)).heap.size = w.heap.size + 1 + 1 := by simp
  generalize (w.alloc (.cells #[.slice (some ⟨g, 0, none⟩) 35 cap] 26)).alloc (.cells (B8 (digRow m 35)) 40) = W at hb hl1 hl2 hsz ⊢
  have h1n : 1 < w.heap.size := Lies.lt hc
  have main := ends_any 65 #[.pointer (some ⟨w.heap.size, 0, none⟩), .pointer (some ⟨w.heap.size + 1, 0, none⟩)] enters36 (hashAt F) (placeAt (digRow m 35)) (hashAt_length F hF) (placeAt_le m) W (hs.below hb (by omega)) (hc.below hb h1n)
    (fun w' hw' => by
      have hbw : Below w.heap.size w w' := hb.trans (hw'.mono hb.size)
      exact signed_stops 5 w.heap.size (w.heap.size + 1) g cap W.heap.size W.heap.size F (digRow m 35) hF (digRow_length m 35) w' ((hl1.below hw' hl1.lt).cell 0 rfl) (hl2.below hw' hl2.lt) (fun j hj => (hbw.cell (p := ⟨g, 0 + j, none⟩) hg).trans (hsrc j hj)) (by omega) (by omega) (by omega) hw'.size)
  refine main.mono ?_
  rintro e w' ⟨v, rfl, hb', ys, hys, hrow⟩
  refine ⟨v, rfl, hb.trans (hb'.mono hb.size), ?_⟩
  rw [endsOf_all _ _ ys hys] at hrow
  exact ⟨hrow.1, by
    rcases hrow.2 with h | ⟨g, cap, cur, h1, h2, h3⟩
    · exact .inl h
    · exact .inr ⟨g, cap, cur, h1, by omega, h3⟩⟩
theorem hash_cells {w : World} {b : Nat} {cs : Array Value} (hl : Lies w b cs 24) (hcs : cs.size = 32) (h' : List UInt8) (hh' : h'.length = 32) :
    w.there b 0 (vals h').length ∧ Lies (w.setCells b 0 (vals h')) b (B8 h') 24 ∧ w.grownBy (w.setCells b 0 (vals h')) (some b) := by
  have l2 : (vals h').length = 32 := (List.length_map _).trans hh'
  have l1 : cs.toList.length = 32 := (Array.length_toList).trans hcs
  refine ⟨hl.there (by omega), ?_, grown_cells _ _ _ (grown_refl w _)⟩
  have h0 : Lies w b cs.toList.toArray 24 := hl
  have := Lies.cells (vals h') 0 w _ h0 (by omega)
  have e : (List.take 0 cs.toList ++ (vals h' ++ List.drop (0 + (vals h').length) cs.toList)).toArray = B8 h' := by
    rw [l2, List.drop_of_length_le (by omega)]
    simp [B8]
  rwa [e] at this
theorem range_lies {w : World} {b : Nat} {cs : Array Value} {t : TypeId} (hl : Lies w b cs t) : w.rangeAt b 0 cs.toList := fun j v hv => by
  rw [Array.getElem?_toList] at hv
  rw [Nat.zero_add]
  exact hl.cell j hv
set_option maxRecDepth 100000 in
set_option maxHeartbeats 2000000 in
theorem owner_any (w : World) (g cap : Nat) (F m : List UInt8) (hF : F.length = 1120) (hm : m.length = 32) (hg : g < w.heap.size) (hsrc : Src w g 0 F) (hs : Starts w) (hc : Cubes w) :
    Calls Tryz.prog 13 #[.agg #[.slice (some ⟨g, 0, none⟩) 35 cap], .agg (B8 m)] w fun e w' => e = .returned (.tuple #[.agg (B8 (ownerH F m)), .bool true]) ∧ Below w.heap.size w w' := by
  obtain ⟨z, hz⟩ : ∃ z : Array Value, z = z32 := ⟨_, rfl⟩
  obtain ⟨h', hh'⟩ : ∃ h', h' = ownerH F m := ⟨_, rfl⟩
  have hl' : h'.length = 32 := by rw [hh']; exact ownerH_length _ _
  rw [← hh']
  obtain ⟨mv, hmv⟩ : ∃ mv, mv = B8 m := ⟨_, rfl⟩
  have hm32 : mv.size = 32 := by rw [hmv, B8_size, hm]
  rw [← hmv]
  obtain ⟨D, hD⟩ : ∃ D, D = digRow m 35 := ⟨_, rfl⟩
  have HV := Lib.hid (And.intro hmv (And.intro hm32 hD))
  have HH := Lib.hid (And.intro hh' hl')
  have HF := Lib.hid (And.intro hF (And.intro hm (And.intro hg hsrc)))
  have HSC := Lib.hid (And.intro hs hc)
  clear hh' hl' hF hm hg hsrc hs hc hmv hm32 hD
  go_enter Tryz.func13, Tryz.ntmps13
  go_upto_region 3 with fail
  rw [show (#[Value.int .u8 0, .int .u8 0, .int .u8 0, .int .u8 0, .int .u8 0, .int .u8 0, .int .u8 0, .int .u8 0, .int .u8 0, .int .u8 0, .int .u8 0, .int .u8 0, .int .u8 0, .int .u8 0, .int .u8 0, .int .u8 0, .int .u8 0, .int .u8 0, .int .u8 0, .int .u8 0, .int .u8 0, .int .u8 0, .int .u8 0, .int .u8 0, .int .u8 0, .int .u8 0, .int .u8 0, .int .u8 0, .int .u8 0, .int .u8 0, .int .u8 0, .int .u8 0] : Array Value) = z from by rw [hz]; kernel_rfl]
  have hA : Lies (((w.alloc (.cells #[.slice (some ⟨g, 0, none⟩) 35 cap] 28)).alloc (.cells mv 24)).alloc (.cells z 24)) w.heap.size #[.slice (some ⟨g, 0, none⟩) 35 cap] 28 := ((Lies.new w _ 28).alloc _).alloc _
  have hB : Lies (((w.alloc (.cells #[.slice (some ⟨g, 0, none⟩) 35 cap] 28)).alloc (.cells mv 24)).alloc (.cells z 24)) (w.heap.size + 1) mv 24 := by
    have := (Lies.new (w.alloc (.cells #[.slice (some ⟨g, 0, none⟩) 35 cap] 28)) mv 24).alloc (.cells z 24)
    simpa using this
  have hC : Lies (((w.alloc (.cells #[.slice (some ⟨g, 0, none⟩) 35 cap] 28)).alloc (.cells mv 24)).alloc (.cells z 24)) (w.heap.size + 1 + 1) z 24 := by
    have := Lies.new ((w.alloc (.cells #[.slice (some ⟨g, 0, none⟩) 35 cap] 28)).alloc (.cells mv 24)) z 24
    simpa using this
  have hb0 : Below w.heap.size w (((w.alloc (.cells #[.slice (some ⟨g, 0, none⟩) 35 cap] 28)).alloc (.cells mv 24)).alloc (.cells z 24)) := (((Below.refl _ _).alloc (Nat.le_refl _) _).alloc (by simp) _).alloc (by simp; omega) _
  generalize ((w.alloc (.cells #[.slice (some ⟨g, 0, none⟩) 35 cap] 28)).alloc (.cells mv 24)).alloc (.cells z 24) = W0 at hA hB hC hb0 ⊢
  have hk : ∀ V : World, Lies V w.heap.size #[.slice (some ⟨g, 0, none⟩) 35 cap] 28 → Lies V (w.heap.size + 1) mv 24 → V.cell? ⟨w.heap.size, 0, none⟩ = some (.slice (some ⟨g, 0, none⟩) 35 cap) ∧ V.rangeAt (w.heap.size + 1) 0 mv.toList :=
    fun V h1 h2 => ⟨h1.cell 0 rfl, range_lies h2⟩
  have hS : ∀ V : World, Below W0.heap.size W0 V → V.cell? ⟨w.heap.size, 0, none⟩ = some (.slice (some ⟨g, 0, none⟩) 35 cap) ∧ V.rangeAt (w.heap.size + 1) 0 mv.toList :=
    fun V hV => hk V (hA.below hV hA.lt) (hB.below hV hB.lt)
  have h1n := Lies.lt HSC.out.2
  have hSC : ∀ V : World, Below W0.heap.size W0 V → Starts V ∧ Cubes V ∧ Src V g 0 F ∧ g < V.heap.size := fun V hV => by
    have hbv : Below w.heap.size w V := hb0.trans (hV.mono hb0.size)
    exact ⟨HSC.out.1.below hbv (by omega), HSC.out.2.below hbv h1n, fun j hj => (hbv.cell (p := ⟨g, 0 + j, none⟩) HF.out.2.2.1).trans (HF.out.2.2.2 j hj), Nat.lt_of_lt_of_le HF.out.2.2.1 hbv.size⟩
  have hd0 : Below W0.heap.size W0 W0.drew := (Below.refl _ _).drew
  have hdig : Calls Tryz.prog 15 #[.agg mv] W0.drew fun e w' => e = .returned (.agg (B8 D)) ∧ Below W0.heap.size W0 w' := by
    rw [HV.out.1, HV.out.2.2]
    exact (digits_any m HF.out.2.1 W0.drew).mono fun e w' h => ⟨h.1, hd0.trans (h.2.mono (Nat.le_refl _))⟩
  have HDIG := Lib.hid hdig
  have HK := Lib.hid hk
  have HS := Lib.hid hS
  have HX := Lib.hid hSC
  have HA := Lib.hid (And.intro hA (And.intro hB (And.intro hC hb0)))
  have HD0 := Lib.hid hd0
  have s0 := hS _ hd0
  have under26 := Tryz.underlying24
  have size26 : (Tryz.prog.info? 24).map (·.size) = some mv.toList.length := by
    rw [Array.length_toList, HV.out.2.1]; kernel_rfl
  clear hdig hk hS hSC hA hB hC hb0 hd0 h1n
  go_region_held3 (fun V => V.cell? ⟨w.heap.size, 0, none⟩ = some (.slice (some ⟨g, 0, none⟩) 35 cap) ∧ V.rangeAt (w.heap.size + 1) 0 mv.toList)
    (first | exact HS.out _ HD0.out | exact HS.out _ (by assumption) | assumption)
    (first
      | (with_reducible refine HDIG.out.mono ?_; rintro e w1 ⟨rfl, hb1⟩)
      | (with_reducible refine (signed_any w1 (.slice (some ⟨g, 0, none⟩) 35 cap) ⟨_, _, _, rfl⟩ D).mono ?_; rintro e w2 ⟨rfl, hw2⟩
         have hb2 : Below W0.heap.size W0 w2 := by rw [hw2]; exact (hb1.alloc hb1.size _).alloc (by have := hb1.size; simp; omega) _
         have hends := ends_signed w1 g cap F m HF.out.1 (HX.out _ hb1).2.2.2 (HX.out _ hb1).2.2.1 (HX.out _ hb1).1 (HX.out _ hb1).2.1
         rw [← HV.out.2.2, ← hw2] at hends
         clear hw2)
      | (with_reducible refine hends.mono ?_; rintro e w3 ⟨v3, rfl, hb3', hrow⟩
         obtain ⟨g3, c3, rfl, _⟩ := hrow.shape (by omega)
         have hb3 : Below W0.heap.size W0 w3 := hb1.trans (hb3'.mono hb1.size)
         have htog := together_any w3 g3 c3 (allEnds (hashAt F) (placeAt D)) (allEnds_length _ _ (hashAt_length F HF.out.1)) hrow.src (hrow.block g3 rfl).2.1 (HX.out _ hb3).1 (HX.out _ hb3).2.1
         rw [show sha (allEnds (hashAt F) (placeAt D)) = h' from by rw [HV.out.2.2]; exact HH.out.1.symm] at htog)
      | (with_reducible refine htog.mono ?_; rintro e w4 ⟨rfl, hb4'⟩
         have hb4 : Below W0.heap.size W0 w4 := hb3.trans (hb4'.mono hb3.size)
         have hi2 := vals_size h' HH.out.2
         have h12 := vals_one h'
         obtain ⟨ht2, hl5, hg5⟩ := hash_cells (HA.out.2.2.1.below hb4 HA.out.2.2.1.lt) (by rw [hz]; rfl) h' HH.out.2
         have s5 := HK.out _ ((HA.out.1.below hb4 HA.out.1.lt).grown hg5 (by omega)) ((HA.out.2.1.below hb4 HA.out.2.1.lt).grown hg5 (by omega))))
  have hb5 : Below w.heap.size w (w4.setCells (w.heap.size + 1 + 1) 0 (vals h')) := (HA.out.2.2.2.trans (hb4.mono HA.out.2.2.2.size)).grown hg5 (Nat.le_trans HA.out.2.2.2.size hb4.size) (fun x e => by have := Option.some.inj e; omega)
  have hsz : (B8 h').size = 32 := by rw [B8_size]; exact HH.out.2
  have HE := Lib.hid (And.intro hl5 hb5)
  clear hl5 hb5 hg5 ht2 s5 h12 hi2 htog hends hrow
  unfold vals at HE
  generalize w4.setCells (w.heap.size + 1 + 1) 0 (List.map (fun b => Value.int .u8 b.toNat) h') = W5 at HE ⊢
  go_wp2_with fail
  refine bodyPost_ret (v := .tuple #[.agg (B8 h'), .bool true]) ?_ rfl ⟨rfl, HE.out.2⟩
  rw [results_cell_tmp (p := 4) (u := 5) (ty := 24) (by kernel_rfl)]
  have hrun := run_loadVar_row (P := Tryz.prog) W5 (w.heap.size + 1 + 1) 24 24 (B8 h') (0, 0) _ HE.out.1 Tryz.underlying24 rfl (by rw [hsz]; kernel_rfl)
  simp [asAddr, hrun]
end Go.Proofs.YtgempifedhiknaaGreatDoor
