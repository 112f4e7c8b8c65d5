/-
  WotsOwns: the owner of any signature is what the document tells.
-/
import Derived.Test.YtgempifedhiknaaDoorWrw
import Derived.Test.YtgempifedhiknaaDoorKeptH
namespace Go.Proofs.YtgempifedhiknaaDoor
open Go.RowKit Go.Shelf Sha

def zeroB : List UInt8 := List.replicate 32 0
theorem zeroB_val : B8 zeroB = z32 := by kernel_rfl
set_option maxRecDepth 100000 in
set_option maxHeartbeats 1000000 in
theorem own_none (w : World) (v : Option Addr) (n cap : Nat) (hn : n ≠ 35) (m : List UInt8) :
    Calls Tryd.prog 9 #[.agg #[.slice v n cap], .agg (B8 m)] w fun e w' => e = .returned (.tuple #[.agg (B8 zeroB), .bool false]) ∧ Below w.heap.size w w' := by
  have hne : ((n : Int) != 35) = true := by rw [bne_iff_ne]; omega
  have hne2 : ¬ (n : Int) = 35 := by omega
  obtain ⟨mv, hmv⟩ : ∃ mv, mv = B8 m := ⟨_, rfl⟩
  obtain ⟨z, hz⟩ : ∃ z : Array Value, z = z32 := ⟨_, rfl⟩
  rw [← hmv]
  have HZ := Lib.hid hz
  clear hmv hn
  go_enter Tryd.func9, Tryd.ntmps9
  go_upto_region 1 with fail
  rw [show (#[Value.int .u8 0, .int .u8 0, .int .u8 0, .int .u8 0, .int .u8 0, .int .u8 0, .int .u8 0, .int .u8 0, .int .u8 0, .int .u8 0, .int .u8 0, .int .u8 0, .int .u8 0, .int .u8 0, .int .u8 0, .int .u8 0, .int .u8 0, .int .u8 0, .int .u8 0, .int .u8 0, .int .u8 0, .int .u8 0, .int .u8 0, .int .u8 0, .int .u8 0, .int .u8 0, .int .u8 0, .int .u8 0, .int .u8 0, .int .u8 0, .int .u8 0, .int .u8 0] : Array Value) = z from by rw [hz]; kernel_rfl]
  clear hz
  have hA : Lies (((w.alloc (.cells #[.slice v n cap] 24)).alloc (.cells mv 26)).alloc (.cells z 26)) w.heap.size #[.slice v n cap] 24 := ((Lies.new _ _ _).alloc _).alloc _
  have hC : Lies (((w.alloc (.cells #[.slice v n cap] 24)).alloc (.cells mv 26)).alloc (.cells z 26)) (w.heap.size + 1 + 1) z 26 := by
    have := Lies.new ((w.alloc (.cells #[.slice v n cap] 24)).alloc (.cells mv 26)) z 26
    simpa using this
  have hb0 : Below w.heap.size w (((w.alloc (.cells #[.slice v n cap] 24)).alloc (.cells mv 26)).alloc (.cells z 26)) := (((Below.refl _ _).alloc (Nat.le_refl _) _).alloc (by simp) _).alloc (by simp; omega) _
  have cA := hA.cell 0 (v := .slice v n cap) rfl
  have H0 := Lib.hid (And.intro hC hb0)
  clear hA hC hb0
  generalize ((w.alloc (.cells #[.slice v n cap] 24)).alloc (.cells mv 26)).alloc (.cells z 26) = W0 at H0 cA ⊢
  go_wp2_with (refine wpList_store_row rfl 26 _ _ rfl (w.heap.size + 1 + 1) zero32 rfl rfl 26 z H0.out.1 (by kernel_rfl) (by rw [HZ.out]; rfl) (by kernel_rfl) ?_)
  refine bodyPost_ret (v := .tuple #[.agg zero32, .bool false]) ?_ rfl ⟨by rw [zeroB_val]; rfl, below_setRow H0.out.2 _ _ (by omega)⟩
  rw [results_cell_tmp (p := 4) (u := 5) (ty := 26) (by kernel_rfl)]
  have hrun := run_loadVar_row (P := Tryd.prog) (W0.setRow (w.heap.size + 1 + 1) zero32) (w.heap.size + 1 + 1) 26 26 zero32 (0, 0) _ (H0.out.1.setRow _) Tryd.underlying26 rfl (by kernel_rfl)
  simp [asAddr, hrun]
set_option maxRecDepth 100000 in
set_option maxHeartbeats 1000000 in
theorem rown_none (w : World) (v : Option Addr) (n cap : Nat) (hn : n ≠ 35) (m : List UInt8) :
    Calls Tryd.prog 10 #[.agg #[.slice v n cap], .agg (B8 m)] w fun e w' => e = .returned (.tuple #[.agg (B8 zeroB), .bool false]) ∧ Below w.heap.size w w' := by
  have hne : ((n : Int) != 35) = true := by rw [bne_iff_ne]; omega
  have hne2 : ¬ (n : Int) = 35 := by omega
  obtain ⟨mv, hmv⟩ : ∃ mv, mv = B8 m := ⟨_, rfl⟩
  obtain ⟨z, hz⟩ : ∃ z : Array Value, z = z32 := ⟨_, rfl⟩
  rw [← hmv]
  have HZ := Lib.hid hz
  clear hmv hn
  go_enter Tryd.func10, Tryd.ntmps10
  go_upto_region 1 with fail
  rw [show (#[Value.int .u8 0, .int .u8 0, .int .u8 0, .int .u8 0, .int .u8 0, .int .u8 0, .int .u8 0, .int .u8 0, .int .u8 0, .int .u8 0, .int .u8 0, .int .u8 0, .int .u8 0, .int .u8 0, .int .u8 0, .int .u8 0, .int .u8 0, .int .u8 0, .int .u8 0, .int .u8 0, .int .u8 0, .int .u8 0, .int .u8 0, .int .u8 0, .int .u8 0, .int .u8 0, .int .u8 0, .int .u8 0, .int .u8 0, .int .u8 0, .int .u8 0, .int .u8 0] : Array Value) = z from by rw [hz]; kernel_rfl]
  clear hz
  have hA : Lies (((w.alloc (.cells #[.slice v n cap] 24)).alloc (.cells mv 26)).alloc (.cells z 26)) w.heap.size #[.slice v n cap] 24 := ((Lies.new _ _ _).alloc _).alloc _
  have hC : Lies (((w.alloc (.cells #[.slice v n cap] 24)).alloc (.cells mv 26)).alloc (.cells z 26)) (w.heap.size + 1 + 1) z 26 := by
    have := Lies.new ((w.alloc (.cells #[.slice v n cap] 24)).alloc (.cells mv 26)) z 26
    simpa using this
  have hb0 : Below w.heap.size w (((w.alloc (.cells #[.slice v n cap] 24)).alloc (.cells mv 26)).alloc (.cells z 26)) := (((Below.refl _ _).alloc (Nat.le_refl _) _).alloc (by simp) _).alloc (by simp; omega) _
  have cA := hA.cell 0 (v := .slice v n cap) rfl
  have H0 := Lib.hid (And.intro hC hb0)
  clear hA hC hb0
  generalize ((w.alloc (.cells #[.slice v n cap] 24)).alloc (.cells mv 26)).alloc (.cells z 26) = W0 at H0 cA ⊢
  go_wp2_with (refine wpList_store_row rfl 26 _ _ rfl (w.heap.size + 1 + 1) zero32 rfl rfl 26 z H0.out.1 (by kernel_rfl) (by rw [HZ.out]; rfl) (by kernel_rfl) ?_)
  refine bodyPost_ret (v := .tuple #[.agg zero32, .bool false]) ?_ rfl ⟨by rw [zeroB_val]; rfl, below_setRow H0.out.2 _ _ (by omega)⟩
  rw [results_cell_tmp (p := 4) (u := 5) (ty := 26) (by kernel_rfl)]
  have hrun := run_loadVar_row (P := Tryd.prog) (W0.setRow (w.heap.size + 1 + 1) zero32) (w.heap.size + 1 + 1) 26 26 zero32 (0, 0) _ (H0.out.1.setRow _) Tryd.underlying26 rfl (by kernel_rfl)
  simp [asAddr, hrun]
/-- What the owner of m hashes tells. -/
def tellH (m : Nat) (F msg : List UInt8) : List UInt8 := if m = 35 then ownerH F msg else zeroB
theorem tellH_length (m : Nat) (F msg : List UInt8) : (tellH m F msg).length = 32 := by
  unfold tellH
  split
  · exact ownerH_length _ _
  · rfl
theorem own_tell (m : Nat) (F msg : List UInt8) (hF : F.length = 32 * m) (hmsg : msg.length = 32) (V : World) (n c : Nat) (hn : n < V.heap.size) (hsrc : Src V n 0 F) (hs : Starts V) (hc : Cubes V) :
    Calls Tryd.prog 9 #[.agg #[.slice (some ⟨n, 0, none⟩) m c], .agg (B8 msg)] V fun e w' => e = .returned (.tuple #[.agg (B8 (tellH m F msg)), .bool (decide (m = 35))]) ∧ Below V.heap.size V w' := by
  by_cases h : m = 35
  · subst h
    exact owner_any V n c F msg hF hmsg hn hsrc hs hc
  · have e1 : tellH m F msg = zeroB := by unfold tellH; rw [if_neg h]
    have e2 : decide (m = 35) = false := by simp [h]
    rw [e1, e2]
    exact own_none V _ m c h msg
theorem rown_tell (m : Nat) (F msg : List UInt8) (hF : F.length = 32 * m) (hmsg : msg.length = 32) (V : World) (lv : Option Addr) (c : Nat) (hsrc : 0 < m → ∃ g off, lv = some ⟨g, off, none⟩ ∧ g < V.heap.size ∧ Src V g off F) :
    Calls Tryd.prog 10 #[.agg #[.slice lv m c], .agg (B8 msg)] V fun e w' => e = .returned (.tuple #[.agg (B8 (tellH m F msg)), .bool (decide (m = 35))]) ∧ Below V.heap.size V w' := by
  by_cases h : m = 35
  · subst h
    obtain ⟨g, off, rfl, hg, hs⟩ := hsrc (by omega)
    exact rown_any V g off c F msg hF hmsg hg hs
  · have e1 : tellH m F msg = zeroB := by unfold tellH; rw [if_neg h]
    have e2 : decide (m = 35) = false := by simp [h]
    rw [e1, e2]
    exact rown_none V _ m c h msg
theorem OwnH.below {w w' : World} {n c k : Nat} {l : List UInt8} (h : OwnH w n c k l) (hb : Below w.heap.size w w') : OwnH w' n c k l := by
  refine ⟨h.1, ?_⟩
  rcases h.2 with hn | ⟨g, cap, cur, h1, h2, h3, h4⟩
  · exact .inl hn
  · exact .inr ⟨g, cap, cur, h1, h2, (hb.block g (Array.getElem?_eq_some_iff.1 h3).1).trans h3, h4⟩
theorem src_front {w : World} {g off : Nat} {F G : List UInt8} (h : Src w g off (F ++ G)) : Src w g off F := fun j hj => by
  have := h j (by rw [List.length_append]; omega)
  rw [this]
  simp only [List.getD_eq_getElem?_getD]
  rw [List.getElem?_append_left hj]
set_option maxRecDepth 100000 in
set_option maxHeartbeats 2000000 in
theorem owns_any (m : Nat) (F msg : List UInt8) (w : World) (lv : Option Addr) (lc : Nat) (hF : F.length = 32 * m) (hm63 : m ≤ maxLen) (hneat : lv = none → m = 0 ∧ lc = 0) (hsrc : 0 < m → ∃ g off, lv = some ⟨g, off, none⟩ ∧ g < w.heap.size ∧ Src w g off F)
    (hmsg : msg.length = 32) (hs : Starts w) (hc : Cubes w) :
    Calls Tryd.prog 3 #[.agg #[.slice lv m lc], .agg (B8 msg)] w fun e w' => e = .returned (.bool true) ∧ Below w.heap.size w w' := by
  obtain ⟨mv, hmv⟩ : ∃ mv, mv = B8 msg := ⟨_, rfl⟩
  have hms : mv.size = 32 := by rw [hmv, B8_size, hmsg]
  rw [← hmv]
  have HM := Lib.hid (And.intro hmv (And.intro hms hmsg))
  have HF := Lib.hid (And.intro hF (And.intro hneat (And.intro hsrc (And.intro hs hc))))
  have hmi : (m : Int) ≤ 9223372036854775807 := by unfold maxLen at hm63; omega
  clear hmv hms hmsg hF hneat hsrc hs hc hm63
  go_enter Tryd.func3, Tryd.ntmps3
  go_upto_region 1 with fail
  have hA : Lies ((w.alloc (.cells #[.slice lv m lc] 24)).alloc (.cells mv 26)) w.heap.size #[.slice lv m lc] 24 := (Lies.new _ _ _).alloc _
  have hB : Lies ((w.alloc (.cells #[.slice lv m lc] 24)).alloc (.cells mv 26)) (w.heap.size + 1) mv 26 := by
    have := Lies.new (w.alloc (.cells #[.slice lv m lc] 24)) mv 26
    simpa using this
  have hb0 : Below w.heap.size w ((w.alloc (.cells #[.slice lv m lc] 24)).alloc (.cells mv 26)) := ((Below.refl _ _).alloc (Nat.le_refl _) _).alloc (by simp) _
  generalize (w.alloc (.cells #[.slice lv m lc] 24)).alloc (.cells mv 26) = W0 at hA hB hb0 ⊢
  have h1n := Lies.lt HF.out.2.2.2.2
  have hk : ∀ V, Below W0.heap.size W0 V → Starts V ∧ Cubes V ∧ Below w.heap.size w V ∧ Lies V w.heap.size #[.slice lv m lc] 24 ∧ Lies V (w.heap.size + 1) mv 26 ∧ (0 < m → ∃ g off, lv = some ⟨g, off, none⟩ ∧ g < V.heap.size ∧ Src V g off F) := fun V hV => by
    have hbv := hb0.trans (hV.mono hb0.size)
    refine ⟨HF.out.2.2.2.1.below hbv (by omega), HF.out.2.2.2.2.below hbv h1n, hbv, hA.below hV hA.lt, hB.below hV hB.lt, fun hp => ?_⟩
    obtain ⟨g, off, e, hg, hsr⟩ := HF.out.2.2.1 hp
    exact ⟨g, off, e, Nat.lt_of_lt_of_le hg hbv.size, fun j hj => (hbv.cell (p := ⟨g, off + j, none⟩) hg).trans (hsr j hj)⟩
  have HK := Lib.hid hk
  have cA := hA.cell 0 (v := .slice lv m lc) rfl
  clear hA hB hb0 hk h1n
  by_cases hlong : 300 < m
  · have m1 : (300 : Int) < (m : Int) := by omega
    have haw := awake_any W0 (HK.out _ (Below.refl _ _)).1 (HK.out _ (Below.refl _ _)).2.1
    have HAW := Lib.hid haw
    clear haw hlong
    go_wp2_with fail
    refine HAW.out.mono ?_
    rintro e w1 ⟨rfl, hb1⟩
    have hend := (HK.out _ hb1).2.2.1
    clear hb1
    go_wp2_with fail
    go_ret
    exact ⟨rfl, hend⟩
  · have m1 : decide ((300 : Int) < (m : Int)) = false := by simp; omega
    have hm3 : m ≤ 300 := by omega
    have hle := lenth_any m F lv lc W0 hm3 HF.out.1 HF.out.2.1 (HK.out _ (Below.refl _ _)).2.2.2.2.2
    have HLE := Lib.hid (And.intro hle hm3)
    clear hle hlong hm3
    go_upto_region 3 with fail
    go_wp2_with fail
    refine HLE.out.1.mono ?_
    rintro e w3 ⟨n, c, rfl, hown, hn, hb3⟩
    obtain ⟨hos, hnlt, hr1, hr2⟩ := hown.src
    have H3 := Lib.hid (And.intro hown (And.intro hos (And.intro hnlt hb3)))
    clear hown hos hnlt hb3 hn
    go_upto_region 4 with fail
    have hl5 : Lies (w3.alloc (.cells #[.slice (some ⟨n, 0, none⟩) m c] 24)) w3.heap.size #[.slice (some ⟨n, 0, none⟩) m c] 24 := Lies.new _ _ _
    have hb5 : Below w3.heap.size w3 (w3.alloc (.cells #[.slice (some ⟨n, 0, none⟩) m c] 24)) := (Below.refl _ _).alloc (Nat.le_refl _) _
    generalize w3.alloc (.cells #[.slice (some ⟨n, 0, none⟩) m c] 24) = W4 at hl5 hb5 ⊢
    generalize w3.heap.size = b5 at hl5 ⊢
    have hall : ∀ V, Below W4.heap.size W4 V → Below W0.heap.size W0 V ∧ OwnH V n c (m + 12) (F ++ marksH 12) ∧ Src V n 0 F ∧ n < V.heap.size ∧ Lies V b5 #[.slice (some ⟨n, 0, none⟩) m c] 24 := fun V hV => by
      have hbV := hb5.trans (hV.mono hb5.size)
      exact ⟨H3.out.2.2.2.trans (hbV.mono H3.out.2.2.2.size), H3.out.1.below hbV, src_front (fun j hj => (hbV.cell (p := ⟨n, 0 + j, none⟩) H3.out.2.2.1).trans (H3.out.2.1 j hj)), Nat.lt_of_lt_of_le H3.out.2.2.1 hbV.size, hl5.below hV hl5.lt⟩
    have HALL := Lib.hid hall
    have hkW := HK.out _ (hall _ (Below.refl _ _)).1
    have HLB := Lib.hid hkW.2.2.2.2.1
    have c5 := hl5.cell 0 (v := .slice (some ⟨n, 0, none⟩) m c) rfl
    have how := own_tell m F msg HF.out.1 HM.out.2.2 W4 n c (hall _ (Below.refl _ _)).2.2.2.1 (hall _ (Below.refl _ _)).2.2.1 hkW.1 hkW.2.1
    obtain ⟨x, hx⟩ : ∃ x, x = tellH m F msg := ⟨_, rfl⟩
    obtain ⟨ok, hok⟩ : ∃ ok, ok = decide (m = 35) := ⟨_, rfl⟩
    have hxl : x.length = 32 := by rw [hx]; exact tellH_length _ _ _
    rw [← HM.out.1, ← hx, ← hok] at how
    have HX := Lib.hid (And.intro hx (And.intro hok hxl))
    have HOW := Lib.hid how
    clear hall hkW hl5 hb5 how hx hok hxl H3 cA
    go_wp2_with (refine wpList_load_row rfl 26 _ rfl (w.heap.size + 1) rfl 26 _ (0, 0) _ HLB.out Tryd.underlying26 rfl (by rw [HM.out.2.1]; kernel_rfl) ?_)
    refine HOW.out.mono ?_
    rintro e w6 ⟨rfl, hb6⟩
    have hxs : (B8 x).size = 32 := by rw [B8_size]; exact HX.out.2.2
    have HB6 := Lib.hid (And.intro hb6 hxs)
    clear hb6 hxs c5
    go_upto_region 5 with (refine wpList_store_row rfl 26 _ _ rfl w6.heap.size (B8 x) rfl rfl 26 zero32 (Lies.new w6 zero32 26) (by rw [HB6.out.2]; kernel_rfl) (by rw [HB6.out.2]; rfl) (B8_one _) ?_)
    have hl7 : Lies ((w6.alloc (.cells zero32 26)).setRow w6.heap.size (B8 x)) w6.heap.size (B8 x) 26 := (Lies.new w6 zero32 26).setRow _
    have hb7 : Below W4.heap.size W4 ((w6.alloc (.cells zero32 26)).setRow w6.heap.size (B8 x)) := below_setRow (HB6.out.1.alloc HB6.out.1.size _) _ _ HB6.out.1.size
    simp only [zero32] at hl7 hb7
    generalize (w6.alloc (.cells #[Value.int .u8 0, .int .u8 0, .int .u8 0, .int .u8 0, .int .u8 0, .int .u8 0, .int .u8 0, .int .u8 0, .int .u8 0, .int .u8 0, .int .u8 0, .int .u8 0, .int .u8 0, .int .u8 0, .int .u8 0, .int .u8 0, .int .u8 0, .int .u8 0, .int .u8 0, .int .u8 0, .int .u8 0, .int .u8 0, .int .u8 0, .int .u8 0, .int .u8 0, .int .u8 0, .int .u8 0, .int .u8 0, .int .u8 0, .int .u8 0, .int .u8 0, .int .u8 0] 26)).setRow w6.heap.size (B8 x) = W7 at hl7 hb7 ⊢
    generalize w6.heap.size = b6 at hl7 ⊢
    have hkW := HK.out _ (HALL.out _ hb7).1
    have HLB7 := Lib.hid hkW.2.2.2.2.1
    have c0 := hkW.2.2.2.1.cell 0 (v := .slice lv m lc) rfl
    have hrow := rown_tell m F msg HF.out.1 HM.out.2.2 W7 lv lc hkW.2.2.2.2.2
    rw [← HM.out.1, ← HX.out.1, ← HX.out.2.1] at hrow
    have HROW := Lib.hid hrow
    have HL7 := Lib.hid (And.intro hl7 hb7)
    clear hkW hrow hl7 hb7 HLB
    go_wp2_with (refine wpList_load_row rfl 26 _ rfl (w.heap.size + 1) rfl 26 _ (0, 0) _ HLB7.out Tryd.underlying26 rfl (by rw [HM.out.2.1]; kernel_rfl) ?_)
    refine HROW.out.mono ?_
    rintro e w8 ⟨rfl, hb8⟩
    have hb8' := HL7.out.2.trans (hb8.mono HL7.out.2.size)
    have hl8 := HL7.out.1.below hb8 HL7.out.1.lt
    have H8 := Lib.hid (And.intro hb8' hl8)
    clear hb8 hb8' hl8 c0
    go_upto_region 6 with (refine wpList_store_row rfl 26 _ _ rfl w8.heap.size (B8 x) rfl rfl 26 zero32 (Lies.new w8 zero32 26) (by rw [HB6.out.2]; kernel_rfl) (by rw [HB6.out.2]; rfl) (B8_one _) ?_)
    have hl9 : Lies ((w8.alloc (.cells zero32 26)).setRow w8.heap.size (B8 x)) w8.heap.size (B8 x) 26 := (Lies.new w8 zero32 26).setRow _
    have hl6 : Lies ((w8.alloc (.cells zero32 26)).setRow w8.heap.size (B8 x)) b6 (B8 x) 26 := (H8.out.2.alloc _).setRowOther _ _ (by have := H8.out.2.lt; omega)
    have hb9 : Below W4.heap.size W4 ((w8.alloc (.cells zero32 26)).setRow w8.heap.size (B8 x)) := below_setRow (H8.out.1.alloc H8.out.1.size _) _ _ H8.out.1.size
    simp only [zero32] at hl9 hl6 hb9
    generalize (w8.alloc (.cells #[Value.int .u8 0, .int .u8 0, .int .u8 0, .int .u8 0, .int .u8 0, .int .u8 0, .int .u8 0, .int .u8 0, .int .u8 0, .int .u8 0, .int .u8 0, .int .u8 0, .int .u8 0, .int .u8 0, .int .u8 0, .int .u8 0, .int .u8 0, .int .u8 0, .int .u8 0, .int .u8 0, .int .u8 0, .int .u8 0, .int .u8 0, .int .u8 0, .int .u8 0, .int .u8 0, .int .u8 0, .int .u8 0, .int .u8 0, .int .u8 0, .int .u8 0, .int .u8 0] 26)).setRow w8.heap.size (B8 x) = W9 at hl9 hl6 hb9 ⊢
    generalize w8.heap.size = b8 at hl9 ⊢
    have hA9 := HALL.out _ hb9
    have hK9 := HK.out _ hA9.1
    have c0 := hK9.2.2.2.1.cell 0 (v := .slice lv m lc) rfl
    have c5 := hA9.2.2.2.2.cell 0 (v := .slice (some ⟨n, 0, none⟩) m c) rfl
    have hkep := kepth_any m F lv lc n c W9 HLE.out.2 HF.out.1 hK9.2.2.2.2.2 hA9.2.1
    have haw := fun V (hV : Below W9.heap.size W9 V) => awake_any V (HK.out _ (HALL.out _ (hb9.trans (hV.mono hb9.size))).1).1 (HK.out _ (HALL.out _ (hb9.trans (hV.mono hb9.size))).1).2.1
    have hend := fun V (hV : Below W9.heap.size W9 V) => (HK.out _ (HALL.out _ (hb9.trans (hV.mono hb9.size))).1).2.2.1
    have HKE := Lib.hid hkep
    have HAW := Lib.hid haw
    have HEND := Lib.hid hend
    have HLL := Lib.hid (And.intro hl9 hl6)
    have heq := equal_same x HX.out.2.2
    have hgu := guard26
    clear hA9 hK9 hkep haw hend hl9 hl6 hb9 HROW HL7 H8
    go_wp2_with (first
      | (refine wpList_load_row rfl 26 _ rfl b6 rfl 26 _ (0, 0) _ HLL.out.2 Tryd.underlying26 rfl (by rw [HB6.out.2]; kernel_rfl) ?_)
      | (refine wpList_load_row rfl 26 _ rfl b8 rfl 26 _ (0, 0) _ HLL.out.1 Tryd.underlying26 rfl (by rw [HB6.out.2]; kernel_rfl) ?_))
    refine HKE.out.mono ?_
    rintro e w10 ⟨rfl, hb10⟩
    have h10 := HAW.out _ hb10
    go_wp2_with fail
    refine h10.mono ?_
    rintro e w11 ⟨rfl, hb11⟩
    have hfin := HEND.out _ (hb10.trans (hb11.mono hb10.size))
    clear h10 hb10 hb11
    go_wp2_with fail
    go_ret
    exact ⟨rfl, hfin⟩
end Go.Proofs.YtgempifedhiknaaDoor
