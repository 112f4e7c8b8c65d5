/-
  The document's own chains: from a place to another (27), of a seed at a place (31).
  The document's own digits (26).
  The document's own owner of ends (28).
  The document's own owner of a signature (10).
-/
import Derived.Test.YtgempifedhiknaaGreatDoorWsame
import Derived.Test.YtgempifedhiknaaGreatDoorRefOf
import Derived.Outline
import Derived.Test.YtgempifedhiknaaGreatDoorWsh
namespace Go.Proofs.YtgempifedhiknaaGreatDoor
set_option maxRecDepth 100000
open Go.RowKit Go.Shelf Sha

/-- Two bytes, and a hash in a block: the document's hash of them. -/
theorem refof_pair (w : World) (b p n : Nat) (h : List UInt8) (hh : h.length = 32) (hp : p < 256) (hn : n < 256) (hl : Src w b 0 h) (hbl : b < w.heap.size) :
    Calls Tryz.prog 33 #[.slice (some ⟨w.heap.size + 1, 0, none⟩) 2 2] ((w.alloc (.cells #[.int .u8 n, .int .u8 p] 5)).alloc (.cells #[.slice (some ⟨w.heap.size, 0, none⟩) 2 2, .slice (some ⟨b, 0, none⟩) 32 32] 22))
      fun e w' => e = .returned (.agg (B8 (nextH n p h))) ∧ Below w.heap.size w w' := by
  have hb : Below w.heap.size w ((w.alloc (.cells #[.int .u8 n, .int .u8 p] 5)).alloc (.cells #[.slice (some ⟨w.heap.size, 0, none⟩) 2 2, .slice (some ⟨b, 0, none⟩) 32 32] 22)) := (((Below.refl _ _).alloc (Nat.le_refl _) _).alloc (by simp) _)
  have t1 : Lies ((w.alloc (.cells #[.int .u8 n, .int .u8 p] 5)).alloc (.cells #[.slice (some ⟨w.heap.size, 0, none⟩) 2 2, .slice (some ⟨b, 0, none⟩) 32 32] 22)) w.heap.size #[.int .u8 n, .int .u8 p] 5 := ((Lies.new w _ 5).alloc _)
  have t2 : Lies ((w.alloc (.cells #[.int .u8 n, .int .u8 p] 5)).alloc (.cells #[.slice (some ⟨w.heap.size, 0, none⟩) 2 2, .slice (some ⟨b, 0, none⟩) 32 32] 22)) (w.heap.size + 1) #[.slice (some ⟨w.heap.size, 0, none⟩) 2 2, .slice (some ⟨b, 0, none⟩) 32 32] 22 := by
    have := (Lies.new (w.alloc (.cells #[.int .u8 n, .int .u8 p] 5)) #[.slice (some ⟨w.heap.size, 0, none⟩) 2 2, .slice (some ⟨b, 0, none⟩) 32 32] 22)
    simpa using this
  have hl' : Src ((w.alloc (.cells #[.int .u8 n, .int .u8 p] 5)).alloc (.cells #[.slice (some ⟨w.heap.size, 0, none⟩) 2 2, .slice (some ⟨b, 0, none⟩) 32 32] 22)) b 0 h := fun j hj => (hb.cell (p := ⟨b, 0 + j, none⟩) hbl).trans (hl j hj)
  have hbl' : b < ((w.alloc (.cells #[.int .u8 n, .int .u8 p] 5)).alloc (.cells #[.slice (some ⟨w.heap.size, 0, none⟩) 2 2, .slice (some ⟨b, 0, none⟩) 32 32] 22)).heap.size := Nat.lt_of_lt_of_le hbl hb.size
  generalize ((w.alloc (.cells #[.int .u8 n, .int .u8 p] 5)).alloc (.cells #[.slice (some ⟨w.heap.size, 0, none⟩) 2 2, .slice (some ⟨b, 0, none⟩) 32 32] 22)) = W at hb t1 t2 hl' hbl' ⊢
  have hj : joined [⟨some ⟨w.heap.size, 0, none⟩, [UInt8.ofNat n, UInt8.ofNat p], 2⟩, ⟨some ⟨b, 0, none⟩, h, 32⟩] = [UInt8.ofNat n, UInt8.ofNat p] ++ h := by simp [joined]
  have main := refof_any [⟨some ⟨w.heap.size, 0, none⟩, [UInt8.ofNat n, UInt8.ofNat p], 2⟩, ⟨some ⟨b, 0, none⟩, h, 32⟩] W (some ⟨w.heap.size + 1, 0, none⟩) 2 (by simp [maxLen]) ?_ (by intro q hq; simp at hq; rcases hq with rfl | rfl <;> (intro e; cases e)) ?_ (by rw [hj]; simp; omega)
  · rw [hj] at main
    refine main.mono ?_
    rintro e w3 ⟨rfl, hb3⟩
    exact ⟨rfl, hb.trans (hb3.mono hb.size)⟩
  · intro q hq
    rcases List.mem_cons.1 hq with rfl | hq
    · refine ⟨Nat.le_refl _, by simp [maxLen], fun _ => ⟨_, _, rfl, t1.lt, fun j hj => ?_⟩⟩
      have : j = 0 ∨ j = 1 := by simp at hj; omega
      rcases this with rfl | rfl
      · have := t1.cell 0 (v := .int .u8 n) rfl
        rw [this]; simp [Nat.mod_eq_of_lt hn]
      · have := t1.cell 1 (v := .int .u8 p) rfl
        rw [show 0 + 1 = 1 from rfl, this]; simp [Nat.mod_eq_of_lt hp]
    · obtain rfl : q = _ := by simpa using hq
      exact ⟨by simp [hh], by simp [maxLen], fun _ => ⟨_, _, rfl, hbl', hl'⟩⟩
  · intro _
    refine ⟨_, _, rfl, t2.lt, fun j hj => ?_⟩
    have : j = 0 ∨ j = 1 := by simp at hj; omega
    rcases this with rfl | rfl
    · exact t2.cell 0 rfl
    · have := t2.cell 1 (v := .slice (some ⟨b, 0, none⟩) 32 32) rfl
      rw [show 0 + 1 = 1 from rfl, this]; simp [Part.val, hh]
/-- A seed's bytes and one more: the document's hash of them. -/
theorem refof_seed (w : World) (pa : Option Addr) (xs : List UInt8) (pc i : Nat) (hi : i < 256) (hx : xs.length ≤ 900000) (hg : Good w ⟨pa, xs, pc⟩) (hn : pa = none → pc = 0) :
    Calls Tryz.prog 33 #[.slice (some ⟨w.heap.size + 1, 0, none⟩) 2 2] ((w.alloc (.cells #[.int .u8 i] 5)).alloc (.cells #[.slice pa xs.length pc, .slice (some ⟨w.heap.size, 0, none⟩) 1 1] 22))
      fun e w' => e = .returned (.agg (B8 (firstH xs i))) ∧ Below w.heap.size w w' := by
  have hb : Below w.heap.size w ((w.alloc (.cells #[.int .u8 i] 5)).alloc (.cells #[.slice pa xs.length pc, .slice (some ⟨w.heap.size, 0, none⟩) 1 1] 22)) := (((Below.refl _ _).alloc (Nat.le_refl _) _).alloc (by simp) _)
  have t1 : Lies ((w.alloc (.cells #[.int .u8 i] 5)).alloc (.cells #[.slice pa xs.length pc, .slice (some ⟨w.heap.size, 0, none⟩) 1 1] 22)) w.heap.size #[.int .u8 i] 5 := ((Lies.new w _ 5).alloc _)
  have t2 : Lies ((w.alloc (.cells #[.int .u8 i] 5)).alloc (.cells #[.slice pa xs.length pc, .slice (some ⟨w.heap.size, 0, none⟩) 1 1] 22)) (w.heap.size + 1) #[.slice pa xs.length pc, .slice (some ⟨w.heap.size, 0, none⟩) 1 1] 22 := by
    have := (Lies.new (w.alloc (.cells #[.int .u8 i] 5)) #[.slice pa xs.length pc, .slice (some ⟨w.heap.size, 0, none⟩) 1 1] 22)
    simpa using this
  generalize ((w.alloc (.cells #[.int .u8 i] 5)).alloc (.cells #[.slice pa xs.length pc, .slice (some ⟨w.heap.size, 0, none⟩) 1 1] 22)) = W at hb t1 t2 ⊢
  have hj : joined [⟨pa, xs, pc⟩, ⟨some ⟨w.heap.size, 0, none⟩, [UInt8.ofNat i], 1⟩] = xs ++ [UInt8.ofNat i] := by simp [joined]
  have main := refof_any [⟨pa, xs, pc⟩, ⟨some ⟨w.heap.size, 0, none⟩, [UInt8.ofNat i], 1⟩] W (some ⟨w.heap.size + 1, 0, none⟩) 2 (by simp [maxLen]) ?_ (by intro q hq; simp at hq; rcases hq with rfl | rfl; exact hn; exact fun e => (by cases e)) ?_ (by rw [hj]; simp; omega)
  · rw [hj] at main
    refine main.mono ?_
    rintro e w3 ⟨rfl, hb3⟩
    exact ⟨rfl, hb.trans (hb3.mono hb.size)⟩
  · intro q hq
    rcases List.mem_cons.1 hq with rfl | hq
    · exact hg.below hb
    · obtain rfl : q = _ := by simpa using hq
      refine ⟨Nat.le_refl _, by simp [maxLen], fun _ => ⟨_, _, rfl, t1.lt, fun j hj => ?_⟩⟩
      obtain rfl : j = 0 := by simp at hj; omega
      have := t1.cell 0 (v := .int .u8 i) rfl
      rw [this]; simp [Nat.mod_eq_of_lt hi]
  · intro _
    refine ⟨_, _, rfl, t2.lt, fun j hj => ?_⟩
    have : j = 0 ∨ j = 1 := by simp at hj; omega
    rcases this with rfl | rfl
    · exact t2.cell 0 rfl
    · have := t2.cell 1 (v := .slice (some ⟨w.heap.size, 0, none⟩) 1 1) rfl
      rw [show 0 + 1 = 1 from rfl, this]; rfl
set_option maxRecDepth 100000 in
set_option maxHeartbeats 1000000 in
theorem ron_any (h : List UInt8) (hh : h.length = 32) (i p q : Nat) (hi : i < 256) (hpq : p ≤ q) (hq : q ≤ 15) (w : World) :
    Calls Tryz.prog 32 #[.agg (B8 h), .int .i64 i, .int .i64 p, .int .i64 q] w fun e w' => e = .returned (.agg (B8 (onN i p (q - p) h))) ∧ Below w.heap.size w w' := by
  obtain ⟨z, hz⟩ : ∃ z : Array Value, z = z32 := ⟨_, rfl⟩
  obtain ⟨hv, hhv⟩ : ∃ hv, hv = B8 h := ⟨_, rfl⟩
  have hwi : IntKind.u8.wrap (i : Int) = (i : Int) := by show (i : Int) % 256 = _; omega
  have i0 : (0 : Int) ≤ (i : Int) := by omega
  have p0 : (p : Int) ≤ 15 := by omega
  rw [← hhv]
  have HH := Lib.hid (And.intro hhv (And.intro hh (And.intro hi (And.intro hpq hq))))
  clear hhv hh hi
  go_enter Tryz.func32, Tryz.ntmps32
  go_wp2_with fail
  rw [show (#[Value.int .u8 0, .int .u8 0, .int .u8 0, .int .u8 0, .int .u8 0, .int .u8 0, .int .u8 0, .int .u8 0, .int .u8 0, .int .u8 0, .int .u8 0, .int .u8 0, .int .u8 0, .int .u8 0, .int .u8 0, .int .u8 0, .int .u8 0, .int .u8 0, .int .u8 0, .int .u8 0, .int .u8 0, .int .u8 0, .int .u8 0, .int .u8 0, .int .u8 0, .int .u8 0, .int .u8 0, .int .u8 0, .int .u8 0, .int .u8 0, .int .u8 0, .int .u8 0] : Array Value) = z from by rw [hz]; kernel_rfl]
  have hA : Lies ((w.alloc (.cells hv 24)).alloc (.cells z 24)) w.heap.size (B8 (onN i p (p - p) h)) 24 := by
    rw [Nat.sub_self, onN_zero, ← HH.out.1]
    exact (Lies.new w hv 24).alloc (.cells z 24)
  have hB : Lies ((w.alloc (.cells hv 24)).alloc (.cells z 24)) (w.heap.size + 1) z 24 := by
    have := Lies.new (w.alloc (.cells hv 24)) z 24
    simpa using this
  have hb0 : Below w.heap.size w ((w.alloc (.cells hv 24)).alloc (.cells z 24)) := ((Below.refl _ _).alloc (Nat.le_refl _) _).alloc (by simp) _
  have H0 := Lib.hid (And.intro hA (And.intro hB hb0))
  clear hA hB hb0
  generalize (w.alloc (.cells hv 24)).alloc (.cells z 24) = W0 at H0 ⊢
  go_loopw [9] (fun v W => ∃ k : Nat, p ≤ k ∧ k ≤ q ∧ v = .int .i64 ((k : Int) + 1) ∧ Lies W w.heap.size (B8 (onN i p (k - p) h)) 24 ∧ Lies W (w.heap.size + 1) z 24 ∧ Below w.heap.size w W) (fun v _ => q + 1 - (intOf v).toNat)
  case atStart => exact ⟨p, Nat.le_refl _, hpq, rfl, H0.out⟩
  case round =>
    clear H0
    obtain ⟨k, hpk, hkq, rfl, h1, h2, hb⟩ := hrel
    by_cases hlt : k < q
    · obtain ⟨k1, hk1⟩ : ∃ k1, k1 = k + 1 := ⟨_, rfl⟩
      have e1 : (k : Int) + 1 = (k1 : Int) := by omega
      rw [e1]
      have m1 : (k1 : Int) ≤ (q : Int) := by omega
      have m2 : (q : Int) ≤ 15 := by omega
      have m0 : (0 : Int) ≤ (k1 : Int) := by omega
      have hwk : IntKind.u8.wrap (k1 : Int) = (k1 : Int) := by show (k1 : Int) % 256 = _; omega
      obtain ⟨hc, hhc⟩ : ∃ hc, hc = onN i p (k - p) h := ⟨_, rfl⟩
      have hcl : hc.length = 32 := by rw [hhc]; exact onN_length _ _ _ HH.out.2.1 _
      rw [← hhc] at h1
      have hsrc : Src wr w.heap.size 0 hc := fun j hj => by rw [Nat.zero_add]; exact h1.cell j (B8_get hc j hj)
      have hof := refof_pair wr w.heap.size k1 i hc hcl (by omega) HH.out.2.2.1 hsrc h1.lt
      have hnx : nextH i k1 hc = onN i p (k1 - p) h := by
        rw [show k1 - p = (k - p) + 1 by omega, onN_succ, hhc]
        congr 1
        omega
      have HR := Lib.hid (And.intro hk1 (And.intro hcl (And.intro hnx (And.intro h1 (And.intro h2 (And.intro hb (And.intro hpk hlt)))))))
      have HOF := Lib.hid hof
      clear hof hsrc hhc hcl hnx h1 h2 hb hpk hkq hlt hk1 e1
      go_wp2_with fail
      refine HOF.out.mono ?_
      rintro e w5 ⟨rfl, hb5⟩
      have hl5 := HR.out.2.2.2.1.below hb5 HR.out.2.2.2.1.lt
      have hz5 := HR.out.2.2.2.2.1.below hb5 HR.out.2.2.2.2.1.lt
      have hbb := HR.out.2.2.2.2.2.1.trans (hb5.mono HR.out.2.2.2.2.2.1.size)
      have hsn : (B8 (nextH i k1 hc)).size = 32 := by rw [B8_size]; exact nextH_length _ _ _
      have hso : (B8 hc).size = 32 := by rw [B8_size]; exact HR.out.2.1
      have H5 := Lib.hid (And.intro hl5 (And.intro hz5 (And.intro hbb (And.intro hsn hso))))
      clear hl5 hz5 hbb hb5 hsn hso
      go_wp2_with (refine wpList_store_row rfl 24 _ _ rfl w.heap.size (B8 (nextH i k1 hc)) rfl rfl 24 (B8 hc) H5.out.1 (by rw [H5.out.2.2.2.1]; kernel_rfl) (by rw [H5.out.2.2.2.1, H5.out.2.2.2.2]) (B8_one _) ?_)
      have hfin : Lies (w5.setRow w.heap.size (B8 (nextH i k1 hc))) w.heap.size (B8 (onN i p (k1 - p) h)) 24 := by
        rw [← HR.out.2.2.1]; exact H5.out.1.setRow _
      have hk1 := HR.out.1
      have hlt := HR.out.2.2.2.2.2.2
      refine ⟨⟨k1, by omega, by omega, rfl, hfin, H5.out.2.1.setRowOther _ _ (by omega), below_setRow H5.out.2.2.1 _ _ (Nat.le_refl _)⟩, ?_⟩
      simp [intOf]; omega
    · obtain rfl : k = q := by omega
      have m1 : ¬ ((k : Int) + 1 ≤ (k : Int)) := by omega
      have m2 : decide ((k : Int) + 1 ≤ (k : Int)) = false := by simp; omega
      obtain ⟨hc, hhc⟩ : ∃ hc, hc = onN i p (k - p) h := ⟨_, rfl⟩
      have hcl : (B8 hc).size = 32 := by rw [B8_size, hhc]; exact onN_length _ _ _ HH.out.2.1 _
      rw [← hhc] at h1
      have HHC := Lib.hid hhc
      have HX := Lib.hid (And.intro h1 (And.intro h2 (And.intro hb hcl)))
      clear h1 h2 hb hcl hhc hlt hkq
      go_wp2_with (first
        | (refine wpList_load_row rfl 24 _ rfl w.heap.size rfl 24 _ (0, 0) _ HX.out.1 Tryz.underlying24 rfl (by rw [HX.out.2.2.2]; kernel_rfl) ?_)
        | (refine wpList_store_row rfl 24 _ _ rfl (w.heap.size + 1) (B8 hc) rfl rfl 24 z HX.out.2.1 (by rw [HX.out.2.2.2]; kernel_rfl) (by rw [HX.out.2.2.2, hz]; rfl) (B8_one _) ?_))
      refine bodyPost_ret (v := .agg (B8 hc)) (results_cell_row (p := 8) (ty := 24) (by kernel_rfl) _ _ (w.heap.size + 1) 24 (B8 hc) (0, 0) _ rfl (HX.out.2.1.setRow _) Tryz.underlying24 rfl (by rw [HX.out.2.2.2]; kernel_rfl)) rfl ⟨by rw [HHC.out], ?_⟩
      exact below_setRow HX.out.2.2.1 _ _ (by omega)
set_option maxRecDepth 100000 in
set_option maxHeartbeats 1000000 in
theorem rat_any (w : World) (pa : Option Addr) (xs : List UInt8) (pc i q : Nat) (hi : i < 256) (hq : q ≤ 15) (hx : xs.length ≤ 900000) (hg : Good w ⟨pa, xs, pc⟩) (hn : pa = none → pc = 0) :
    Calls Tryz.prog 20 #[.slice pa xs.length pc, .int .i64 i, .int .i64 q] w fun e w' => e = .returned (.agg (B8 (atH xs i q))) ∧ Below w.heap.size w w' := by
  obtain ⟨z, hz⟩ : ∃ z : Array Value, z = z32 := ⟨_, rfl⟩
  have hwi : IntKind.u8.wrap (i : Int) = (i : Int) := by show (i : Int) % 256 = _; omega
  have i0 : (0 : Int) ≤ (i : Int) := by omega
  have hA : Lies (w.alloc (.cells z 24)) w.heap.size z 24 := Lies.new _ _ _
  have hb0 : Below w.heap.size w (w.alloc (.cells z 24)) := (Below.refl _ _).alloc (Nat.le_refl _) _
  have hg0 := hg.below hb0
  have hof := refof_seed (w.alloc (.cells z 24)) pa xs pc i hi hx hg0 hn
  have HOF := Lib.hid hof
  have HA := Lib.hid (And.intro hA hb0)
  have hon := fun W => ron_any (firstH xs i) (firstH_length _ _) i 0 q hi (Nat.zero_le _) hq W
  have HON := Lib.hid hon
  have HZ := Lib.hid hz
  clear hof hA hb0 hg0 hon hg hx hi hn
  go_enter Tryz.func20, Tryz.ntmps20
  go_upto_region 1 with fail
  rw [show (#[Value.int .u8 0, .int .u8 0, .int .u8 0, .int .u8 0, .int .u8 0, .int .u8 0, .int .u8 0, .int .u8 0, .int .u8 0, .int .u8 0, .int .u8 0, .int .u8 0, .int .u8 0, .int .u8 0, .int .u8 0, .int .u8 0, .int .u8 0, .int .u8 0, .int .u8 0, .int .u8 0, .int .u8 0, .int .u8 0, .int .u8 0, .int .u8 0, .int .u8 0, .int .u8 0, .int .u8 0, .int .u8 0, .int .u8 0, .int .u8 0, .int .u8 0, .int .u8 0] : Array Value) = z from by rw [HZ.out]; kernel_rfl]
  generalize w.alloc (.cells z 24) = W0 at HOF HA ⊢
  clear hz
  go_wp2_with fail
  refine HOF.out.mono ?_
  rintro e w2 ⟨rfl, hb2⟩
  go_wp2_with fail
  refine (HON.out w2).mono ?_
  rintro e w3 ⟨rfl, hb3⟩
  have hb23 := hb2.trans (hb3.mono hb2.size)
  have hl3 := HA.out.1.below hb23 HA.out.1.lt
  have hbw := HA.out.2.trans (hb23.mono HA.out.2.size)
  have hsz : (B8 (onN i 0 (q - 0) (firstH xs i))).size = 32 := by rw [B8_size]; exact onN_length _ _ _ (firstH_length _ _) _
  have HL := Lib.hid (And.intro hl3 (And.intro hbw hsz))
  clear hl3 hbw hsz hb2 hb3 hb23
  go_wp2_with (refine wpList_store_row rfl 24 _ _ rfl w.heap.size (B8 (onN i 0 (q - 0) (firstH xs i))) rfl rfl 24 z HL.out.1 (by rw [HL.out.2.2]; kernel_rfl) (by rw [HL.out.2.2, HZ.out]; rfl) (B8_one _) ?_)
  refine bodyPost_ret (v := .agg (B8 (onN i 0 (q - 0) (firstH xs i)))) (results_cell_row (p := 6) (ty := 24) (by kernel_rfl) _ _ w.heap.size 24 (B8 (onN i 0 (q - 0) (firstH xs i))) (0, 0) _ rfl (HL.out.1.setRow _) Tryz.underlying24 rfl (by rw [HL.out.2.2]; kernel_rfl)) rfl ⟨rfl, ?_⟩
  exact below_setRow HL.out.2.1 _ _ (Nat.le_refl _)
end Go.Proofs.YtgempifedhiknaaGreatDoor
namespace Go.Proofs.YtgempifedhiknaaGreatDoor
set_option maxRecDepth 100000
open Go.RowKit Go.Shelf Sha

theorem run_moreI {w0 w : World} {vs us : List Value} {v : Value} (h : RowI w0 vs v w) (n : Nat) (hn : us.length = n) (h1 : ∀ u, u ∈ us → u.oneCell' = true) (hl : vs.length + n ≤ 2000000) (g : Nat) (hg : Lies w g us.toArray 3) (ty : TypeId) :
    ∃ v' w', (Builtin.append_ #[50, 50] ty #[v, .slice (some ⟨g, 0, none⟩) n n]).run Tryz.prog w = .ok v' w' ∧ RowI w0 (vs ++ us) v' w' := by
  obtain ⟨i0, hi0, hz0, hz1, hz2⟩ := info_parts info3
  obtain ⟨v', w', r1, r2, r3, _⟩ := run_append_own_at (P := Tryz.prog) w w0.heap.size 50 ty 3 i0 (.int .i64 0) 1 8 Tryz.underlying50 hi0 hz0 hz1 hz2 rfl (by decide) v vs.length vs h.1 ⟨g, 0, none⟩ n n us (by rw [hn]; omega) (World.news_of_block (cs := us.toArray) (t := 3) (fr := (0, 0)) hg) h1 (by unfold maxLen; omega) (by omega) h.2.size
  refine ⟨v', w', r1, ⟨?_, h.2.grown r3 h.2.size (fun j e => (h.1.lt j e).1)⟩⟩
  rw [List.length_append, hn]; exact r2
theorem exec_moreI {o : Oper} {a : Act} {w w' : World} (s x : Operand) (ho : o.op = .call { callee := .builtin .append, args := #[s, x], argTypes := #[50, 50] }) {v v' : Value} {g n : Nat} (hs : a.eval s = v) (hx : a.eval x = .slice (some ⟨g, 0, none⟩) n n)
    {ty : TypeId} (hty : o.type = ty) (hr : (Builtin.append_ #[50, 50] ty #[v, .slice (some ⟨g, 0, none⟩) n n]).run Tryz.prog w = .ok v' w') : (execOp a.eval o).run Tryz.prog w = .ok (.value v') w' := by
  subst hty
  unfold execOp
  simp only [ho, resolve, invoke, builtin, Sem.run_bind, Sem.run_pure, Result.andThen_ok, List.map_toArray, List.map_cons, List.map_nil, hs, hx, hr]
theorem wvals_cell {w0 w : World} {m : List UInt8} {n g c l : Nat} (h : RowI w0 (wvals m n) (.slice (some ⟨g, 0, none⟩) l c) w) (j : Nat) (hj : j < n) : w.cell? ⟨g, j, none⟩ = some (.int .i64 (wdig m j)) := by
  have := h.1.cells (g := g) rfl j (.int .i64 (wdig m j)) (by simp [wvals, List.getElem?_range hj])
  rwa [Addr.add_mid, Nat.zero_add] at this
theorem wvals_shape {w0 w : World} {m : List UInt8} {n : Nat} {v : Value} (h : RowI w0 (wvals m n) v w) (hn : 0 < n) : ∃ g c, v = .slice (some ⟨g, 0, none⟩) n c := by
  rcases h.1.2 with ⟨_, h0⟩ | ⟨g, cap, cur, e, _⟩
  · rw [wvals_length] at h0; omega
  · exact ⟨g, cap, by rw [e, wvals_length]⟩
set_option maxRecDepth 100000 in
set_option maxHeartbeats 1000000 in
theorem rdig_any (m : List UInt8) (hm : m.length = 32) (w : World) : Calls Tryz.prog 19 #[.agg (B8 m)] w fun e w' => ∃ v, e = .returned v ∧ DigV m v w' ∧ Below w.heap.size w w' := by
  have HM := Lib.hid hm
  go_enter Tryz.func19, Tryz.ntmps19
  go_wp2_with fail
  have hA : Lies (w.alloc (.cells (B8 m) 24)) w.heap.size (B8 m) 24 := Lies.new _ _ _
  have hb0 : Below w.heap.size w (w.alloc (.cells (B8 m) 24)) := (Below.refl _ _).alloc (Nat.le_refl _) _
  have HST := Lib.hid (And.intro hb0 hA)
  clear hb0 hA hm
  generalize w.alloc (.cells (B8 m) 24) = W0 at HST ⊢
  go_loopw [3, 5] (fun v i W => ∃ j : Nat, j ≤ 16 ∧ i = .int .i64 j ∧ RowI W0 (wvals m (2 * j)) v W) (fun _ i _ => 16 - (intOf i).toNat)
  case atStart => exact ⟨0, by omega, rfl, World.ownsRow_nil _ _ _ _, Below.refl _ _⟩
  case round =>
    obtain ⟨j, hj, rfl, h1⟩ := hrel
    by_cases hlt : j < 16
    · have m1 : (j : Int) < 16 := by omega
      have m0 : (0 : Int) ≤ (j : Int) := by omega
      have m2 : (j : Int) < 32 := by omega
      obtain ⟨x, hx⟩ : ∃ x, x = (m.getD j 0).toNat := ⟨_, rfl⟩
      have hc : ∀ V, Below W0.heap.size W0 V → V.cell? ⟨w.heap.size, j, none⟩ = some (.int .u8 x) := fun V hV => by
        rw [hx]
        exact (HST.out.2.below hV HST.out.2.lt).cell j (B8_get m j (by have := HM.out; omega))
      have hx8 : x < 256 := by rw [hx]; exact UInt8.toNat_lt _
      obtain ⟨q, hq⟩ : ∃ q, q = x / 16 := ⟨_, rfl⟩
      obtain ⟨r, hr⟩ : ∃ r, r = x % 16 := ⟨_, rfl⟩
      have m3 : (x : Int) < 256 := by omega
      have eq1 : (x : Int) / 16 = (q : Int) := by omega
      have m5 : (r : Int) < 16 := by omega
      have eq2 : (x : Int).tmod 16 = (r : Int) := by rw [Int.tmod_eq_emod_of_nonneg (by omega)]; omega
      have HR := Lib.hid (And.intro hlt (And.intro hx (And.intro hq (And.intro hr (And.intro h1 hc)))))
      clear hx hq hr hlt hj hx8 hc h1
      go_upto_region 6 with fail
      refine wp_region_held (S := Below W0.heap.size W0) (by kernel_rfl) ?_
      change wpAnyH _ _ _ _ _ 14 _ _ (World.drew wr)
      have hcur : Below W0.heap.size W0 wr.drew := HR.out.2.2.2.2.1.2.drew
      refine held_take (i := 0) (v := u3) rfl 11 rfl (by kernel_rfl) (by kernel_rfl) (by kernel_rfl) (fun _ _ _ h => h) (by rfl) (by intro w' hS'; unfold execOp; simp [go_sem]) hcur _ rfl ?_
      simp only [Act.put, List.setIfInBounds_toArray, List.set_cons_zero, List.set_cons_succ]
      refine held_take (i := 1) (v := .int .i64 j) rfl 12 rfl (by kernel_rfl) (by kernel_rfl) (by kernel_rfl) (fun _ _ _ h => h) (by rfl) (by intro w' hS'; unfold execOp; simp [go_sem]) hcur _ rfl ?_
      simp only [Act.put, List.setIfInBounds_toArray, List.set_cons_zero, List.set_cons_succ]
      refine held_take (i := 2) (v := .pointer (some ⟨w.heap.size, j, none⟩)) rfl 13 rfl (by kernel_rfl) (by kernel_rfl) (by kernel_rfl) (fun _ _ _ h => h) (by rfl) (by intro w' hS'; unfold execOp; simp [go_sem, m0, m2]) hcur _ rfl ?_
      simp only [Act.put, List.setIfInBounds_toArray, List.set_cons_zero, List.set_cons_succ]
      refine held_take (i := 3) (v := .int .u8 x) rfl 14 rfl (by kernel_rfl) (by kernel_rfl) (by kernel_rfl) (fun _ _ _ h => h) (by rfl) (by intro w' hS'; have h1 := HR.out.2.2.2.2.2 _ hS'; unfold execOp; simp [go_sem, h1]) hcur _ rfl ?_
      simp only [Act.put, List.setIfInBounds_toArray, List.set_cons_zero, List.set_cons_succ]
      have hwx : IntKind.i64.wrap (x : Int) = (x : Int) := by rw [IntKind.wrap_i64]; omega
      have hwq : IntKind.i64.wrap (q : Int) = (q : Int) := by rw [IntKind.wrap_i64]; omega
      have hwr : IntKind.i64.wrap (r : Int) = (r : Int) := by rw [IntKind.wrap_i64]; omega
      refine held_take (i := 4) (v := .int .i64 x) rfl 15 rfl (by kernel_rfl) (by kernel_rfl) (by kernel_rfl) (fun _ _ _ h => h) (by rfl) (by intro w' hS'; unfold execOp; simp [go_sem, hwx]) hcur _ rfl ?_
      simp only [Act.put, List.setIfInBounds_toArray, List.set_cons_zero, List.set_cons_succ]
      refine held_take (i := 5) (v := .int .i64 q) rfl 16 rfl (by kernel_rfl) (by kernel_rfl) (by kernel_rfl) (fun _ _ _ h => h) (by rfl) (by intro w' hS'; unfold execOp; simp [go_sem, eq1, hwq]) hcur _ rfl ?_
      simp only [Act.put, List.setIfInBounds_toArray, List.set_cons_zero, List.set_cons_succ]
      refine held_take (i := 6) (v := .int .i64 j) rfl 17 rfl (by kernel_rfl) (by kernel_rfl) (by kernel_rfl) (fun _ _ _ h => h) (by rfl) (by intro w' hS'; unfold execOp; simp [go_sem]) hcur _ rfl ?_
      simp only [Act.put, List.setIfInBounds_toArray, List.set_cons_zero, List.set_cons_succ]
      refine held_take (i := 7) (v := .pointer (some ⟨w.heap.size, j, none⟩)) rfl 18 rfl (by kernel_rfl) (by kernel_rfl) (by kernel_rfl) (fun _ _ _ h => h) (by rfl) (by intro w' hS'; unfold execOp; simp [go_sem, m0, m2]) hcur _ rfl ?_
      simp only [Act.put, List.setIfInBounds_toArray, List.set_cons_zero, List.set_cons_succ]
      refine held_take (i := 8) (v := .int .u8 x) rfl 19 rfl (by kernel_rfl) (by kernel_rfl) (by kernel_rfl) (fun _ _ _ h => h) (by rfl) (by intro w' hS'; have h1 := HR.out.2.2.2.2.2 _ hS'; unfold execOp; simp [go_sem, h1]) hcur _ rfl ?_
      simp only [Act.put, List.setIfInBounds_toArray, List.set_cons_zero, List.set_cons_succ]
      refine held_take (i := 9) (v := .int .i64 x) rfl 20 rfl (by kernel_rfl) (by kernel_rfl) (by kernel_rfl) (fun _ _ _ h => h) (by rfl) (by intro w' hS'; unfold execOp; simp [go_sem, hwx]) hcur _ rfl ?_
      simp only [Act.put, List.setIfInBounds_toArray, List.set_cons_zero, List.set_cons_succ]
      refine held_take (i := 10) (v := .int .i64 r) rfl 21 rfl (by kernel_rfl) (by kernel_rfl) (by kernel_rfl) (fun _ _ _ h => h) (by rfl) (by intro w' hS'; unfold execOp; simp [go_sem, eq2]) hcur _ rfl ?_
      simp only [Act.put, List.setIfInBounds_toArray, List.set_cons_zero, List.set_cons_succ]
      refine held_one (i := 11) (by kernel_rfl) _ rfl (wpOp_valueTo rfl rfl 22 rfl (v := .slice (some ⟨wr.drew.heap.size, 0, none⟩) 2 2) (w' := wr.drew.alloc (.cells #[.int .i64 q, .int .i64 r] 3)) (by unfold execOp; simp [go_sem]) ⟨hcur.alloc hcur.size _, ?_⟩)
      simp only [Act.put, List.setIfInBounds_toArray, List.set_cons_zero, List.set_cons_succ]
      have hrow : RowI W0 (wvals m (2 * j)) u3 (wr.drew.alloc (.cells #[.int .i64 q, .int .i64 r] 3)) := ⟨World.ownsRow.alloc HR.out.2.2.2.2.1.1 _, hcur.alloc hcur.size _⟩
      have hli : Lies (wr.drew.alloc (.cells #[.int .i64 q, .int .i64 r] 3)) wr.drew.heap.size [.int .i64 q, .int .i64 r].toArray 3 := Lies.new _ _ _
      generalize wr.drew.alloc (.cells #[.int .i64 q, .int .i64 r] 3) = W2 at hrow hli ⊢
      generalize wr.drew.heap.size = g2 at hli ⊢
      obtain ⟨v7, w7, hrun, hrow7⟩ := run_moreI hrow 2 rfl (by intro u hu; simp at hu; rcases hu with rfl | rfl <;> rfl) (by rw [wvals_length]; have := HR.out.1; omega) g2 hli 50
      refine held_one (i := 12) (by kernel_rfl) _ rfl (wpOp_valueTo rfl rfl 23 rfl (exec_moreI (ty := 50) (v := u3) (g := g2) (n := 2) (.tmp 11) (.tmp 22) rfl rfl rfl rfl hrun) ⟨hrow7.2, ?_⟩)
      simp only [Act.put, List.setIfInBounds_toArray, List.set_cons_zero, List.set_cons_succ]
      have hcur7 := hrow7.2
      refine held_take (i := 13) (v := v7) rfl 3 rfl (by kernel_rfl) (by kernel_rfl) (by kernel_rfl) (fun _ _ _ h => h) (by rfl) (by intro w' hS'; unfold execOp; simp [go_sem]) hcur7 _ rfl ?_
      simp only [Act.put, List.setIfInBounds_toArray, List.set_cons_zero, List.set_cons_succ]
      refine wpAnyH_done (by kernel_rfl) ?_ _
      rw [wvals_two m j q r (by rw [wd_even, HR.out.2.2.1, HR.out.2.1]) (by rw [wd_odd, HR.out.2.2.2.1, HR.out.2.1])] at hrow7
      have H7 := Lib.hid hrow7
      clear hrow7 hcur7 hrun hrow hli hcur eq1 eq2 hwx hwq hwr m2 m3 m5
      go_wp2_with fail
      refine ⟨⟨j + 1, by have := HR.out.1; omega, by go_num, H7.out⟩, ?_⟩
      have := HR.out.1
      simp [intOf]; omega
    · have hj2 : j = 16 := by omega
      subst hj2
      rw [show ((16 : Nat) : Int) = 16 from rfl]
      obtain ⟨g, c, rfl⟩ := wvals_shape h1 (by omega)
      have hcw : ∀ k, k < 32 → wr.cell? ⟨g, k, none⟩ = some (.int .i64 (wdig m k)) := fun k hk => wvals_cell h1 k hk
      have H1 := Lib.hid (And.intro h1 hcw)
      clear h1 hcw hj hlt
      go_wp2_with fail
      go_loop [4, 6] (fun s i => ∃ k : Nat, k ≤ 32 ∧ i = .int .i64 k ∧ s = .int .i64 (leftD m k)) (fun _ i => 32 - (intOf i).toNat)
      case atStart => exact ⟨0, by omega, rfl, rfl⟩
      case round =>
        obtain ⟨k, hk, rfl, rfl⟩ := hrel
        by_cases hlt : k < 32
        · have n1 : (k : Int) < 32 := by omega
          have n0 : (0 : Int) ≤ (k : Int) := by omega
          have cw := H1.out.2 k hlt
          obtain ⟨d, hd⟩ : ∃ d, d = wdig m k := ⟨_, rfl⟩
          obtain ⟨l, hl⟩ : ∃ l, l = leftD m k := ⟨_, rfl⟩
          obtain ⟨l2, hl2⟩ : ∃ l, l = leftD m (k + 1) := ⟨_, rfl⟩
          have h5 : l2 + d = l + 15 := by
            have := wdig_lt m k
            rw [hl2, hl, hd]; simp only [leftD]; omega
          have h6 : l ≤ 480 := by rw [hl]; have := leftD_le m k; omega
          have hd16 : d < 16 := by rw [hd]; exact wdig_lt m k
          rw [← hd] at cw
          rw [← hl]
          have HD := Lib.hid (And.intro hl2 (And.intro h5 (And.intro h6 (And.intro hd16 hlt))))
          clear hd hl hl2 h5 h6 hd16 hlt hk
          go_wp2_with fail
          refine ⟨⟨k + 1, by have := HD.out.2.2.2.2; omega, by go_num, ?_⟩, ?_⟩
          · rw [← HD.out.1]
            have := HD.out
            refine congrArg (Value.int .i64) ?_
            have e1 : wrap64 ((l : Int) + 15) = (l : Int) + 15 := by unfold wrap64; omega
            first | (rw [e1]; unfold wrap64; omega) | (unfold wrap64; omega) | omega
          · have := HD.out.2.2.2.2
            simp [intOf]; omega
        · obtain rfl : k = 32 := by omega
          rw [show ((32 : Nat) : Int) = 32 from rfl]
          obtain ⟨L, hL⟩ : ∃ L, L = leftD m 32 := ⟨_, rfl⟩
          rw [← hL]
          have hL2 : L ≤ 480 := by rw [hL]; exact leftD_le m 32
          obtain ⟨p, hp⟩ : ∃ p, p = L / 16 := ⟨_, rfl⟩
          obtain ⟨d2, hd2⟩ : ∃ d2, d2 = p % 16 := ⟨_, rfl⟩
          obtain ⟨d3, hd3⟩ : ∃ d3, d3 = L % 16 := ⟨_, rfl⟩
          obtain ⟨d1, hd1⟩ : ∃ d1, d1 = L / 256 := ⟨_, rfl⟩
          have hn1 : (p : Int) % 16 = (d2 : Int) := by omega
          have hn2 : (L : Int) % 16 = (d3 : Int) := by omega
          have ep : (L : Int) / 16 = (p : Int) := by omega
          have ed : (L : Int) / 256 = (d1 : Int) := by omega
          have f1 : d1 = digit m 32 := by rw [digit_a, ← hL, hd1]
          have f2 : d2 = digit m 33 := by rw [digit_b, ← hL, hd2, hp]
          have f3 : d3 = digit m 34 := by rw [digit_c, ← hL, hd3]
          have HF := Lib.hid (And.intro f1 (And.intro f2 f3))
          have n1 : (L : Int) ≤ 480 := by omega
          have n2 : (p : Int) ≤ 30 := by omega
          clear hL hL2 hp hd1 hd2 hd3 f1 f2 f3 hk hlt
          have hlen := wvals_length m 32
          have HLN := Lib.hid hlen
          clear hlen
          go_wp2_with (at_builtin; go_must (refine wpList_pushI rfl _ _ rfl (wvals m 32) [.int .i64 d1, .int .i64 d2, .int .i64 d3] _ 3 rfl (by intro u hu; simp at hu; rcases hu with rfl | rfl | rfl <;> rfl) rfl rfl (by rw [HLN.out]; omega) H1.out.1 ?_); intro v7 w7 HQ7)
          have hq := HQ7.out
          rw [dvals_all m d1 d2 d3 (by rw [HF.out.1]) (by rw [HF.out.2.1]) (by rw [HF.out.2.2])] at hq
          go_ret
          exact ⟨_, rfl, hq.dig, HST.out.1.trans (hq.2.mono HST.out.1.size)⟩
end Go.Proofs.YtgempifedhiknaaGreatDoor
namespace Go.Proofs.YtgempifedhiknaaGreatDoor
set_option maxRecDepth 100000
open Go.RowKit Go.Shelf Sha

/-- A hash's bytes in a block of their own, as a slice. -/
def PartB (p : Part) (h : List UInt8) (w : World) : Prop := ∃ g c cs, p = ⟨some ⟨g, 0, none⟩, h, c⟩ ∧ h.length = 32 ∧ w.heap[g]? = some (.cells cs 5 (0, 0)) ∧ 32 ≤ c ∧ c ≤ maxLen ∧ ∀ j, j < 32 → cs[j]? = some (.int .u8 (h.getD j 0).toNat)
theorem PartB.step {p : Part} {h : List UInt8} {w w' : World} (hp : PartB p h w) (hk : ∀ (g : Nat) cs, w.heap[g]? = some (.cells cs 5 (0, 0)) → w'.heap[g]? = some (.cells cs 5 (0, 0))) : PartB p h w' := by
  obtain ⟨g, c, cs, h1, h2, h3, h4⟩ := hp
  exact ⟨g, c, cs, h1, h2, hk _ _ h3, h4⟩
theorem PartB.good {p : Part} {h : List UInt8} {w : World} (hp : PartB p h w) : Good w p ∧ p.at_ ≠ none ∧ p.xs = h := by
  obtain ⟨g, c, cs, rfl, h2, h3, h4, h5, h6⟩ := hp
  refine ⟨⟨by simp only [h2]; exact h4, h5, fun _ => ⟨g, 0, rfl, (Array.getElem?_eq_some_iff.1 h3).1, fun j hj => ?_⟩⟩, by simp, rfl⟩
  rw [Nat.zero_add, cell_of_row w g j cs 5 (0, 0) h3]
  exact h6 j (by rw [← h2]; exact hj)
/-- Slices of hashes in a row of the call's own. -/
def RowP (w0 : World) (hs : List (List UInt8)) (ps : List Part) (v : Value) (w : World) : Prop :=
  w.ownsRow w0.heap.size 22 1 v ps.length (ps.map Part.val) ∧ Below w0.heap.size w0 w ∧ ps.length = hs.length ∧ ∀ i (hi : i < ps.length) (hj : i < hs.length), PartB ps[i] hs[i] w
theorem info33 : (Tryz.prog.info? 22).map (fun i => (i.zero, i.size, i.bytes)) = some (some (.slice none 0 0), 1, 24) := by kernel_rfl
theorem RowP.src {w0 w : World} {hs : List (List UInt8)} {ps : List Part} {v : Value} (h : RowP w0 hs ps v w) (hn : 0 < ps.length) : ∃ g c, v = .slice (some ⟨g, 0, none⟩) ps.length c ∧ g < w.heap.size ∧ PSrc w g 0 ps := by
  rcases h.1.2 with ⟨_, h0⟩ | ⟨g, cap, cur, e, _, hg, _⟩
  · omega
  · refine ⟨g, cap, e, (Array.getElem?_eq_some_iff.1 hg).1, fun j hj => ?_⟩
    have := h.1.cells (g := g) (by rw [e]; rfl) j (Part.val ps[j]) (by rw [List.getElem?_map, List.getElem?_eq_getElem hj]; rfl)
    rw [Addr.add_mid, Nat.zero_add] at this
    rw [Nat.zero_add, this]
    simp [List.getD_eq_getElem?_getD, hj, Part.val]
/-- One slice more. -/
theorem wpList_pushP {w0 w : World} {ops : Array Oper} {rest : List Oper} {o : Oper} {a : Act} {Q : Exit → Act → World → Prop} (hgd : o.guard = none) (sx x : Operand)
    (ho : o.op = .call { callee := .builtin .append, args := #[sx, x], argTypes := #[62, 62] }) (hs : List (List UInt8)) (ps : List Part) (v u : Value) (h : List UInt8) (p : Part) (hu : u = p.val) (hb : PartB p h w)
    (hsx : a.eval sx = v) (hx : a.eval x = .slice (some ⟨w.heap.size, 0, none⟩) 1 1) (hl : ps.length ≤ 2000000) (hr : RowP w0 hs ps v w)
    (k : ∀ v' w', Hid (RowP w0 (hs ++ [h]) (ps ++ [p]) v' w') → wpList Tryz.prog ops Q rest (a.put o.dst v') w') : wpList Tryz.prog ops Q (o :: rest) a (w.alloc (.cells #[u] 22)) := by
  obtain ⟨i0, hi0, hz0, hz1, hz2⟩ := info_parts info33
  refine wpList_append_own _ hgd sx x 62 ho w0.heap.size 22 i0 (.slice none 0 0) 1 24 Tryz.underlying62 hi0 hz0 hz1 hz2 rfl (by decide) v ps.length (ps.map Part.val) hsx (hr.1.alloc _) ⟨w.heap.size, 0, none⟩ 1 1 [u] hx rfl ?_ (by intro y hy; simp at hy; rw [hy, hu]; rfl) (by unfold maxLen; omega) (by omega) (by have := hr.2.1.size; simp; omega) ?_
  · exact World.news_of_block (cs := #[u]) (t := 22) (fr := (0, 0)) (heap_alloc_new w _)
  · intro v' w' hown hgrow _
    have hkeep : ∀ (g : Nat) cs, w.heap[g]? = some (.cells cs 5 (0, 0)) → w'.heap[g]? = some (.cells cs 5 (0, 0)) := fun g cs hg => by
      have h1 := (Below.heap_alloc w (.cells #[u] 22) g (Array.getElem?_eq_some_iff.1 hg).1).trans hg
      refine (hgrow.block g (Array.getElem?_eq_some_iff.1 h1).1 (fun e => ?_)).trans h1
      rcases hr.1.2 with ⟨rfl, _⟩ | ⟨g2, cap, cur, rfl, _, hg2, _⟩
      · simp [Value.ownBlock] at e
      · obtain rfl : g = g2 := by simpa [Value.ownBlock] using e
        rw [hg2] at hg
        simp at hg
    refine k v' w' (Lib.hid ⟨?_, (hr.2.1.alloc hr.2.1.size _).grown hgrow (by have := hr.2.1.size; simp; omega) (fun j e => (hr.1.lt j e).1), by simp [hr.2.2.1], fun i hi hj => ?_⟩)
    · rw [List.length_append, List.map_append]
      rw [hu] at hown
      exact hown
    · by_cases hlt : i < ps.length
      · have hlt2 : i < hs.length := by have := hr.2.2.1; omega
        rw [List.getElem_append_left hlt, List.getElem_append_left hlt2]
        exact (hr.2.2.2 i hlt hlt2).step hkeep
      · have e1 : i = ps.length := by simp at hi; omega
        have hl3 := hr.2.2.1
        have e4 : (ps ++ [p])[i] = p := by subst e1; simp
        have e5 : (hs ++ [h])[i] = h := by subst e1; simp [hl3]
        rw [e4, e5]
        exact hb.step hkeep
/-- The hashes of a row. -/
def hashesOf (F : List UInt8) (n : Nat) : List (List UInt8) := (List.range n).map fun i => (F.drop (32 * i)).take 32
theorem hashesOf_succ (F : List UInt8) (n : Nat) : hashesOf F (n + 1) = hashesOf F n ++ [(F.drop (32 * n)).take 32] := by simp [hashesOf, List.range_succ]
theorem hashesOf_length (F : List UInt8) (n : Nat) : (hashesOf F n).length = n := by simp [hashesOf]
theorem flat_hashes (F : List UInt8) : ∀ n, (hashesOf F n).flatten = F.take (32 * n)
  | 0 => by simp [hashesOf]
  | n + 1 => by
    rw [hashesOf_succ, List.flatten_append, flat_hashes F n, show 32 * (n + 1) = 32 * n + 32 by omega, List.take_add]
    simp
theorem joined_rows : ∀ (ps : List Part) (hs : List (List UInt8)), ps.length = hs.length → (∀ i (hi : i < ps.length) (hj : i < hs.length), (ps[i]).xs = hs[i]) → joined ps = hs.flatten
  | [], [], _, _ => rfl
  | [], _ :: _, h, _ => by simp at h
  | _ :: _, [], h, _ => by simp at h
  | p :: ps, h :: hs, hl, hx => by
    have h0 := hx 0 (by simp) (by simp)
    simp only [List.getElem_cons_zero] at h0
    have ih := joined_rows ps hs (by simpa using hl) fun i hi hj => by
      have := hx (i + 1) (by simp; omega) (by simp; omega)
      simpa using this
    unfold joined at ih ⊢
    rw [List.flatMap_cons, List.flatten_cons, h0, ih]
theorem RowP.below {w0 w w' : World} {hs : List (List UInt8)} {ps : List Part} {v : Value} (h : RowP w0 hs ps v w) (hb : Below w.heap.size w w') : RowP w0 hs ps v w' := by
  refine ⟨⟨h.1.1, ?_⟩, h.2.1.trans (hb.mono h.2.1.size), h.2.2.1, fun i hi hj => (h.2.2.2 i hi hj).step fun g cs hg => (hb.block g (Array.getElem?_eq_some_iff.1 hg).1).trans hg⟩
  rcases h.1.2 with hn | ⟨g, cap, cur, h1, h2, h3, h4⟩
  · exact .inl hn
  · exact .inr ⟨g, cap, cur, h1, h2, (hb.block g (Array.getElem?_eq_some_iff.1 h3).1).trans h3, h4⟩
/-- A hash in the middle of a row, appended to an empty slice of its own: it lies in a block of its own. -/
theorem wpList_copyH {w : World} {ops : Array Oper} {rest : List Oper} {o : Oper} {a : Act} {Q : Exit → Act → World → Prop} (hgd : o.guard = none) (sx x : Operand)
    (ho : o.op = .call { callee := .builtin .append, args := #[sx, x], argTypes := #[22, 22] }) (g off : Nat) (h : List UInt8) (hs : a.eval sx = .slice (some ⟨w.heap.size, 0, none⟩) 0 0) (hx : a.eval x = .slice (some ⟨g, off, none⟩) 32 32) (hh : HashAt w g off h)
    (k : ∀ g2 c2 w', Hid (PartB ⟨some ⟨g2, 0, none⟩, h, c2⟩ h w' ∧ Below w.heap.size w w') → wpList Tryz.prog ops Q rest (a.put o.dst (.slice (some ⟨g2, 0, none⟩) 32 c2)) w') : wpList Tryz.prog ops Q (o :: rest) a (w.alloc (.cells #[] 5)) := by
  obtain ⟨i0, hi0, hz0, hz1, hz2⟩ := info_parts info5
  have hb := (Below.refl w.heap.size w).alloc (Nat.le_refl _) (.cells #[] 5)
  have hown : (w.alloc (.cells #[] 5)).ownsRow w.heap.size 5 1 (.slice (some ⟨w.heap.size, 0, none⟩) 0 0) 0 [] := ⟨rfl, .inr ⟨w.heap.size, 0, #[], rfl, Nat.le_refl _, heap_alloc_new w _, Nat.le_refl _, Nat.zero_le _, rfl, rfl⟩⟩
  have h2 := hh.below hb hh.2.2
  have hl : (B8 h).toList.length = 32 := by rw [Array.length_toList, B8_size, hh.1]
  refine wpList_append_own _ hgd sx x 22 ho w.heap.size 5 i0 (.int .u8 0) 1 1 Tryz.underlying22 hi0 hz0 hz1 hz2 rfl (by decide) _ 0 [] hs hown ⟨g, off, none⟩ 32 32 (B8 h).toList hx (by rw [hl]) ?_ (byts_one _) (by unfold maxLen; omega) (by omega) (by simp) ?_
  · intro j u hu
    have := h2.2.1 j u hu
    rwa [show (⟨g, off, none⟩ : Addr).add j = ⟨g, off + j, none⟩ by unfold Addr.add; split <;> simp_all]
  · intro v' w' hown' hgrow hz
    rcases hown'.2 with ⟨_, h0⟩ | ⟨g2, cap, cur, rfl, hb2, hg2, hc1, hc2, hc3, hc4⟩
    · omega
    · have hp : PartB ⟨some ⟨g2, 0, none⟩, h, cap⟩ h w' := ⟨g2, cap, cur, rfl, hh.1, hg2, by omega, hc2, fun j hj => by
        have e : cur.toList[j]? = (B8 h).toList[j]? := by
          have h5 : (cur.toList.take ((0 + 32) * 1))[j]? = (B8 h).toList[j]? := by rw [hc4, List.nil_append]
          rwa [List.getElem?_take_of_lt (by omega)] at h5
        rw [Array.getElem?_toList, Array.getElem?_toList, B8_get h j (by rw [hh.1]; exact hj)] at e
        exact e⟩
      have hbw : Below w.heap.size w w' := hb.grown hgrow (by simp) (fun j e => by have h9 : some w.heap.size = some j := e; have := Option.some.inj h9; omega)
      exact k _ _ w' (Lib.hid ⟨hp, hbw⟩)
set_option maxRecDepth 100000 in
set_option maxHeartbeats 1000000 in
theorem rowner_any (F : List UInt8) (g cap : Nat) (hF : F.length = 1120) (w : World) (hg : g < w.heap.size) (hsrc : Src w g 0 F) :
    Calls Tryz.prog 23 #[.slice (some ⟨g, 0, none⟩) 35 cap] w fun e w' => e = .returned (.agg (B8 (sha F))) ∧ Below w.heap.size w w' := by
  obtain ⟨z, hz⟩ : ∃ z : Array Value, z = z32 := ⟨_, rfl⟩
  have HG := Lib.hid (And.intro hg (And.intro hsrc hF))
  clear hg hsrc hF
  go_enter Tryz.func23, Tryz.ntmps23
  go_wp2_with fail
  rw [show (#[Value.int .u8 0, .int .u8 0, .int .u8 0, .int .u8 0, .int .u8 0, .int .u8 0, .int .u8 0, .int .u8 0, .int .u8 0, .int .u8 0, .int .u8 0, .int .u8 0, .int .u8 0, .int .u8 0, .int .u8 0, .int .u8 0, .int .u8 0, .int .u8 0, .int .u8 0, .int .u8 0, .int .u8 0, .int .u8 0, .int .u8 0, .int .u8 0, .int .u8 0, .int .u8 0, .int .u8 0, .int .u8 0, .int .u8 0, .int .u8 0, .int .u8 0, .int .u8 0] : Array Value) = z from by rw [hz]; kernel_rfl]
  have hA : Lies (w.alloc (.cells z 24)) w.heap.size z 24 := Lies.new _ _ _
  have hb0 : Below w.heap.size w (w.alloc (.cells z 24)) := (Below.refl _ _).alloc (Nat.le_refl _) _
  have HST := Lib.hid (And.intro hb0 (And.intro hA hz))
  clear hb0 hA hz
  generalize w.alloc (.cells z 24) = W0 at HST ⊢
  go_loopw [3, 4] (fun v i W => ∃ k : Nat, k ≤ 35 ∧ i = .int .i64 k ∧ ∃ ps, ps.length = k ∧ RowP W0 (hashesOf F k) ps v W) (fun _ i _ => 35 - (intOf i).toNat)
  case atStart => exact ⟨0, by omega, rfl, [], rfl, World.ownsRow_nil _ _ _ _, Below.refl _ _, rfl, fun i hi => by simp at hi⟩
  case round =>
    obtain ⟨k, hk, rfl, ps, hps, hr⟩ := hrel
    by_cases hlt : k < 35
    · have m1 : (k : Int) < 35 := by omega
      have m0 : (0 : Int) ≤ (k : Int) := by omega
      have hbW := hr.2.1
      have hx : HashAt wr g (0 + k * 32) ((F.drop (32 * k)).take 32) := (hash_src HG.out.2.1 HG.out.1 k (by rw [HG.out.2.2]; omega)).below (HST.out.1.trans (hbW.mono HST.out.1.size)) HG.out.1
      rw [Nat.zero_add] at hx
      obtain ⟨h, hh⟩ : ∃ h, h = (F.drop (32 * k)).take 32 := ⟨_, rfl⟩
      rw [← hh] at hx
      have HR := Lib.hid (And.intro hps (And.intro hr (And.intro hx (And.intro hh hlt))))
      clear hbW hx hh hr hps hlt hk
      go_upto_region 5 with fail
      go_wp2_with (first
        | (at_builtin; refine wpList_copyH rfl (.tmp 12) (.tmp 16) rfl g (k * 32) h rfl rfl HR.out.2.2.1 ?_; intro g2 c2 w6 HP)
        | (at_builtin; refine wpList_pushP rfl (.tmp 11) (.tmp 18) rfl (hashesOf F k) ps u3 _ h ⟨some ⟨g2, 0, none⟩, h, c2⟩ (by simp only [Part.val, HR.out.2.2.1.1]) HP.out.1 rfl rfl (by have := HR.out.1; have := HR.out.2.2.2.2; omega) (HR.out.2.1.below HP.out.2) ?_; intro v7 w7 HQ7))
      have hq := HQ7.out
      rw [HR.out.2.2.2.1, ← hashesOf_succ] at hq
      have hl5 := HR.out.2.2.2.2
      have hl6 := HR.out.1
      refine ⟨⟨k + 1, by omega, by go_num, _, by simp [hl6], hq⟩, ?_⟩
      simp [intOf]; omega
    · obtain rfl : k = 35 := by omega
      rw [show ((35 : Nat) : Int) = 35 from rfl]
      obtain ⟨g5, c5, rfl, hg5, hps5⟩ := hr.src (by omega)
      have hjn : joined ps = F := by
        rw [joined_rows ps (hashesOf F 35) hr.2.2.1 fun i hi hj => (hr.2.2.2 i hi hj).good.2.2, flat_hashes, List.take_of_length_le (by rw [HG.out.2.2]; omega)]
      have hgood : ∀ p, p ∈ ps → Good wr p ∧ p.at_ ≠ none := fun p hp => by
        obtain ⟨i, hi, rfl⟩ := List.getElem_of_mem hp
        have := (hr.2.2.2 i hi (by rw [hashesOf_length]; omega)).good
        exact ⟨this.1, this.2.1⟩
      have hof := refof_any ps wr (some ⟨g5, 0, none⟩) c5 (by unfold maxLen; omega) (fun p hp => (hgood p hp).1) (fun p hp e => absurd e (hgood p hp).2) (fun _ => ⟨g5, 0, rfl, hg5, hps5⟩) (by rw [hjn, HG.out.2.2]; omega)
      rw [hjn, hps] at hof
      rw [hps]
      have HOF := Lib.hid (And.intro hof hr.2.1)
      obtain ⟨x, hx⟩ : ∃ x, x = sha F := ⟨_, rfl⟩
      have hxl : (B8 x).size = 32 := by rw [B8_size, hx]; rfl
      have HX := Lib.hid (And.intro hx hxl)
      clear hof hgood hjn hps5 hg5 hr hps hlt hk hx hxl
      go_wp2_with fail
      have ho := HOF.out.1
      rw [← HX.out.1] at ho
      refine ho.mono ?_
      rintro e w6 ⟨rfl, hb6⟩
      have hbb := HOF.out.2.trans (hb6.mono HOF.out.2.size)
      have hl6 := HST.out.2.1.below hbb HST.out.2.1.lt
      have H6 := Lib.hid (And.intro hl6 (HST.out.1.trans (hbb.mono HST.out.1.size)))
      clear ho hb6 hbb hl6
      go_wp2_with (refine wpList_store_row rfl 24 _ _ rfl w.heap.size (B8 x) rfl rfl 24 z H6.out.1 (by rw [HX.out.2]; kernel_rfl) (by rw [HX.out.2, HST.out.2.2]; rfl) (B8_one _) ?_)
      refine bodyPost_ret (v := .agg (B8 x)) (results_cell_row (p := 2) (ty := 24) (by kernel_rfl) _ _ w.heap.size 24 (B8 x) (0, 0) _ rfl (H6.out.1.setRow _) Tryz.underlying24 rfl (by rw [HX.out.2]; kernel_rfl)) rfl ⟨by rw [HX.out.1], ?_⟩
      exact below_setRow H6.out.2 _ _ (Nat.le_refl _)
end Go.Proofs.YtgempifedhiknaaGreatDoor
namespace Go.Proofs.YtgempifedhiknaaGreatDoor
set_option maxRecDepth 100000
open Go.RowKit Go.Shelf Sha

theorem RowH.below {B k : Nat} {l : List UInt8} {v : Value} {w w' : World} (h : RowH B k l v w) (hb : Below w.heap.size w w') : RowH B k l v w' := h.kept (grown_below hb none) (fun _ _ e => by cases e)
/-- The ends of the first k chains. -/
def endsTo (F m : List UInt8) (k : Nat) : List UInt8 := (List.range k).flatMap fun i => onN i (digit m i) (15 - digit m i) (hashAt F i)
theorem endsTo_succ (F m : List UInt8) (k : Nat) : endsTo F m (k + 1) = endsTo F m k ++ onN k (digit m k) (15 - digit m k) (hashAt F k) := by simp [endsTo, List.range_succ]
theorem endsTo_all (F m : List UInt8) : endsTo F m 35 = allEnds (hashAt F) (placeAt (digRow m 35)) := by
  unfold endsTo allEnds
  rw [List.flatMap_def, List.flatMap_def, List.map_congr_left fun i hi => ?_]
  unfold endH
  rw [placeAt_dig m i (List.mem_range.1 hi)]
theorem hashAt_mid {V : World} {g off : Nat} {F : List UInt8} (hs : Src V g off F) (hg : g < V.heap.size) (hF : F.length = 1120) (i : Nat) (hi : i < 35) : HashAt V g (off + i * 32) (hashAt F i) := by
  have h := hash_src hs hg i (by rw [hF]; omega)
  unfold hashAt
  rw [if_pos hi, Nat.mul_comm i 32]
  rwa [Nat.mul_comm i 32] at h
end Go.Proofs.YtgempifedhiknaaGreatDoor
