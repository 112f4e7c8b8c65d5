/-
  WotsSigned: the owner of what a seed signs is its key, whatever the message.
-/
import Derived.Test.YtgempifedhiknaaDoorWawk
namespace Go.Proofs.YtgempifedhiknaaDoor
open Go.RowKit Go.Shelf Sha

set_option maxRecDepth 100000 in
set_option maxHeartbeats 2000000 in
theorem signedlaw_any (w : World) (pa : Option Addr) (xs : List UInt8) (pc : Nat) (m : List UInt8) (hm : m.length = 32) (hx : xs.length ≤ maxLen) (hg : Good w ⟨pa, xs, pc⟩) (hs : Starts w) (hc : Cubes w) :
    Calls Tryd.prog 5 #[.slice pa xs.length pc, .agg (B8 m)] w fun e w' => e = .returned (.bool true) ∧ Below w.heap.size w w' := by
  obtain ⟨mv, hmv⟩ : ∃ mv, mv = B8 m := ⟨_, rfl⟩
  have hm32 : mv.size = 32 := by rw [hmv, B8_size, hm]
  rw [← hmv]
  have HV := Lib.hid (And.intro hmv (And.intro hm32 hm))
  have HSC := Lib.hid (And.intro hs (And.intro hc hg))
  have hxi : (xs.length : Int) ≤ 9223372036854775807 := by unfold maxLen at hx; omega
  clear hmv hm hs hc hg hx
  go_enter Tryd.func5, Tryd.ntmps5
  go_upto_region 1 with fail
  have hA : Lies (w.alloc (.cells mv 26)) w.heap.size mv 26 := Lies.new _ _ _
  have hb0 : Below w.heap.size w (w.alloc (.cells mv 26)) := (Below.refl _ _).alloc (Nat.le_refl _) _
  generalize w.alloc (.cells mv 26) = W0 at hA hb0 ⊢
  have h1n := Lies.lt HSC.out.2.1
  have hk : ∀ V, Below W0.heap.size W0 V → Starts V ∧ Cubes V ∧ Good V ⟨pa, xs, pc⟩ ∧ Below w.heap.size w V ∧ Lies V w.heap.size mv 26 := fun V hV => by
    have hbv := hb0.trans (hV.mono hb0.size)
    exact ⟨HSC.out.1.below hbv (by omega), HSC.out.2.1.below hbv h1n, HSC.out.2.2.below hbv, hbv, hA.below hV hA.lt⟩
  have HK := Lib.hid hk
  clear hA hb0 hk h1n
  go_wp2_with fail
  refine (awake_any W0 (HK.out _ (Below.refl _ _)).1 (HK.out _ (Below.refl _ _)).2.1).mono ?_
  rintro e w1 ⟨rfl, hb1⟩
  by_cases hlong : 300 < xs.length
  · have m1 : (300 : Int) < (xs.length : Int) := by omega
    have hend := (HK.out _ hb1).2.2.2.1
    clear hlong hb1
    go_wp2_with fail
    go_ret
    exact ⟨rfl, hend⟩
  · have m1 : decide ((300 : Int) < (xs.length : Int)) = false := by simp; omega
    have hx9 : xs.length ≤ 900000 := by omega
    have hsg := sign_any w1 pa xs pc m HV.out.2.2 hx9 (HK.out _ hb1).2.2.1 (HK.out _ hb1).1 (HK.out _ hb1).2.1
    rw [← HV.out.1] at hsg
    have HSG := Lib.hid hsg
    have HL1 := Lib.hid (HK.out _ hb1).2.2.2.2
    have HB1 := Lib.hid hb1
    have HX := Lib.hid hx9
    clear hsg hb1 hlong hx9
    go_wp2_with (refine wpList_load_row rfl 26 _ rfl w.heap.size rfl 26 _ (0, 0) _ HL1.out Tryd.underlying26 rfl (by rw [HV.out.2.1]; kernel_rfl) ?_)
    refine HSG.out.mono ?_
    rintro e w2 ⟨v, rfl, hrow, hb2⟩
    obtain ⟨g1, c1, rfl, _⟩ := hrow.shape (by omega)
    have hg1 := (hrow.block g1 rfl).2.1
    have hsrc := hrow.src
    have hbw2 := HB1.out.trans (hb2.mono HB1.out.size)
    have H2 := Lib.hid (And.intro hg1 (And.intro hsrc hbw2))
    clear hrow hg1 hsrc hb2 hbw2
    go_upto_region 6 with fail
    have hbx : Below w2.heap.size w2 (w2.alloc (.cells #[.slice (some ⟨g1, 0, none⟩) 35 c1] 24)) := (Below.refl _ _).alloc (Nat.le_refl _) _
    have hlx : Lies (w2.alloc (.cells #[.slice (some ⟨g1, 0, none⟩) 35 c1] 24)) w2.heap.size #[.slice (some ⟨g1, 0, none⟩) 35 c1] 24 := Lies.new _ _ _
    have hbW : Below W0.heap.size W0 (w2.alloc (.cells #[.slice (some ⟨g1, 0, none⟩) 35 c1] 24)) := H2.out.2.2.trans (hbx.mono H2.out.2.2.size)
    generalize w2.alloc (.cells #[.slice (some ⟨g1, 0, none⟩) 35 c1] 24) = W3 at hbx hlx hbW ⊢
    obtain ⟨b5, hb5⟩ : ∃ b5, b5 = w2.heap.size := ⟨_, rfl⟩
    rw [← hb5] at hlx ⊢
    have hsrc3 : Src W3 g1 0 (signL xs m) := fun j hj => (hbx.cell (p := ⟨g1, 0 + j, none⟩) H2.out.1).trans (H2.out.2.1 j hj)
    have how := owner_any W3 g1 c1 (signL xs m) m (signL_length _ _) HV.out.2.2 (Nat.lt_of_lt_of_le H2.out.1 hbx.size) hsrc3 (HK.out _ hbW).1 (HK.out _ hbW).2.1
    obtain ⟨kv, hkv⟩ : ∃ k, k = keyH xs := ⟨_, rfl⟩
    have hkl : kv.length = 32 := by rw [hkv]; exact keyH_length _
    rw [owner_sign, ← hkv, ← HV.out.1] at how
    have HOW := Lib.hid how
    have HKV := Lib.hid (And.intro hkv hkl)
    have HLX := Lib.hid (And.intro hlx hbW)
    have HL3 := Lib.hid (HK.out _ hbW).2.2.2.2
    have c5 := hlx.cell 0 (v := .slice (some ⟨g1, 0, none⟩) 35 c1) rfl
    clear hbx hlx hbW hb5 hsrc3 how hkv hkl
    go_wp2_with (refine wpList_load_row rfl 26 _ rfl w.heap.size rfl 26 _ (0, 0) _ HL3.out Tryd.underlying26 rfl (by rw [HV.out.2.1]; kernel_rfl) ?_)
    refine HOW.out.mono ?_
    rintro e w4 ⟨rfl, hb4⟩
    have hbw4 := HLX.out.2.trans (hb4.mono HLX.out.2.size)
    have hl4 := HLX.out.1.below hb4 HLX.out.1.lt
    have hsz : (B8 kv).size = 32 := by rw [B8_size]; exact HKV.out.2
    clear c5 hb4
    go_upto_region 7 with (refine wpList_store_row rfl 26 _ _ rfl w4.heap.size (B8 kv) rfl rfl 26 zero32 (Lies.new w4 zero32 26) (by rw [hsz]; kernel_rfl) (by rw [hsz]; rfl) (B8_one _) ?_)
    have hl6 : Lies ((w4.alloc (.cells zero32 26)).setRow w4.heap.size (B8 kv)) w4.heap.size (B8 kv) 26 := (Lies.new w4 zero32 26).setRow _
    have hl5 : Lies ((w4.alloc (.cells zero32 26)).setRow w4.heap.size (B8 kv)) b5 #[.slice (some ⟨g1, 0, none⟩) 35 c1] 24 := (hl4.alloc _).setRowOther _ _ (by have := hl4.lt; omega)
    have hb6 : Below W0.heap.size W0 ((w4.alloc (.cells zero32 26)).setRow w4.heap.size (B8 kv)) := below_setRow (hbw4.alloc hbw4.size _) _ _ hbw4.size
    simp only [zero32] at hl6 hl5 hb6
    generalize (w4.alloc (.cells #[Value.int .u8 0, .int .u8 0, .int .u8 0, .int .u8 0, .int .u8 0, .int .u8 0, .int .u8 0, .int .u8 0, .int .u8 0, .int .u8 0, .int .u8 0, .int .u8 0, .int .u8 0, .int .u8 0, .int .u8 0, .int .u8 0, .int .u8 0, .int .u8 0, .int .u8 0, .int .u8 0, .int .u8 0, .int .u8 0, .int .u8 0, .int .u8 0, .int .u8 0, .int .u8 0, .int .u8 0, .int .u8 0, .int .u8 0, .int .u8 0, .int .u8 0, .int .u8 0] 26)).setRow w4.heap.size (B8 kv) = W5 at hl6 hl5 hb6 ⊢
    obtain ⟨b6, hb6e⟩ : ∃ b6, b6 = w4.heap.size := ⟨_, rfl⟩
    rw [← hb6e] at hl6 ⊢
    obtain ⟨kvv, hkvv⟩ : ∃ v, v = B8 kv := ⟨_, rfl⟩
    rw [← hkvv] at hl6
    have hkey : ∀ V, Below W5.heap.size W5 V → Calls Tryd.prog 16 #[.slice pa xs.length pc] V fun e w' => e = .returned (.agg kvv) ∧ Below V.heap.size V w' := fun V hV => by
      have h := HK.out _ (hb6.trans (hV.mono hb6.size))
      rw [hkvv, HKV.out.1]
      exact key_any V pa xs pc HX.out h.2.2.1 h.1 h.2.1
    have hS : ∀ V, Below W5.heap.size W5 V → V.cell? ⟨b5, 0, none⟩ = some (.slice (some ⟨g1, 0, none⟩) 35 c1) ∧ V.rangeAt b6 0 kvv.toList := fun V hV =>
      ⟨(hl5.below hV hl5.lt).cell 0 rfl, range_lies (hl6.below hV hl6.lt)⟩
    have heq1 : ∀ V, (Op.equalIn 10000 26 (.agg kvv) (.agg kvv)).run Tryd.prog V = .ok true V := fun V => by rw [hkvv]; exact equal_same _ HKV.out.2 V
    have hgu := guard26
    have under26 := Tryd.underlying26
    have size1 : (Tryd.prog.info? 26).map (·.size) = some kvv.toList.length := by rw [Array.length_toList, hkvv, hsz]; kernel_rfl
    have d5 : Below W5.heap.size W5 W5.drew := (Below.refl _ _).drew
    have s5 := hS _ d5
    have HKEY := Lib.hid hkey
    have HS := Lib.hid hS
    have HE := Lib.hid (And.intro (HK.out _ hb6).2.2.2.1 hb6)
    clear hkey hS hkvv hb6e hl6 hl5 hb6 hl4 hbw4 hsz
    go_region_held3 (fun V => V.cell? ⟨b5, 0, none⟩ = some (.slice (some ⟨g1, 0, none⟩) 35 c1) ∧ V.rangeAt b6 0 kvv.toList)
      (first | exact s5 | exact HS.out _ (by assumption))
      (first | (with_reducible refine (HKEY.out _ (by assumption)).mono ?_; rintro e w9 ⟨rfl, hb9'⟩; have hb9 : Below W5.heap.size W5 w9 := d5.trans (hb9'.mono d5.size)))
    go_wp2_with fail
    go_ret
    have h1 := HE.out.1
    exact ⟨rfl, h1.trans (hb9.mono h1.size)⟩
end Go.Proofs.YtgempifedhiknaaDoor
