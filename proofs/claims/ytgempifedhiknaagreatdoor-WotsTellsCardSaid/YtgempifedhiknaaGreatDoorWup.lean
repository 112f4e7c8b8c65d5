/-
  A chain goes on up to a place (30).
-/
import Derived.Test.YtgempifedhiknaaGreatDoorWstep
import Derived.Deep.MidRow
namespace Go.Proofs.YtgempifedhiknaaGreatDoor
set_option maxRecDepth 100000
open Go.RowKit Sha

def placeOf (b : Nat) (w : World) : Nat := match w.cell? ⟨b, 32, none⟩ with
  | some (.int _ p) => p.toNat
  | _ => 0
theorem placeOf_eq {b p n : Nat} {h : List UInt8} {w : World} (hh : h.length = 32) (hl : Lies w b (CH h p n) 48) : placeOf b w = p := by
  unfold placeOf
  rw [hl.cell 32 (CH_place h p n hh)]
  simp
theorem grown_setRow {w wr : World} {b : Nat} (h : w.grownBy wr (some b)) (g : Nat) (cs : Array Value) (hg : w.heap.size ≤ g) : w.grownBy (wr.setRow g cs) (some b) :=
  ⟨h.os, h.tape, h.output, by rw [size_setRow]; exact h.size, fun k hk hne => (setRow_other wr g k cs (by omega)).trans (h.block k hk hne)⟩
theorem info26 : (Tryz.prog.info? 24).map (·.size) = some 32 := by kernel_rfl
set_option maxRecDepth 100000 in
set_option maxHeartbeats 1000000 in
theorem upto_any (b : Nat) (h : List UInt8) (hh : h.length = 32) (p m n : Nat) (hpm : p ≤ m) (hm : m ≤ 15) (hn : n < 256) (w : World) (hl : Lies w b (CH h p n) 48) (hb1 : 1 < b) (hs : Starts w) (hc : Cubes w) :
    Calls Tryz.prog 17 #[.pointer (some ⟨b, 0, none⟩), .int .u8 m] w fun e w' => e = .returned (.agg (B8 (onN n p (m - p) h))) ∧ Lies w' b (CH (onN n p (m - p) h) m n) 48 ∧ w.grownBy w' (some b) := by
  obtain ⟨z32, hz32⟩ : ∃ z : Array Value, z = B8 (List.replicate 32 0) := ⟨_, rfl⟩
  have hb := hl.lt
  obtain ⟨H, hH⟩ : ∃ H : Nat → List UInt8, H = fun j => onN n p j h := ⟨_, rfl⟩
  have hlen : ∀ j, (H j).length = 32 := fun j => by rw [hH]; exact onN_length _ _ _ hh _
  have hH0 : H 0 = h := by rw [hH]; rfl
  have hHs : ∀ j, nextH n (p + j + 1) (H j) = H (j + 1) := fun j => by rw [hH]; rfl
  rw [show onN n p (m - p) h = H (m - p) by rw [hH]]
  clear hH
  obtain ⟨h', hh'⟩ : ∃ h', h' = H (m - p) := ⟨_, rfl⟩
  rw [← hh']
  have hz : (B8 h').size = 32 := by rw [B8_size, hh']; exact hlen _
  have hgz : w.grownBy (w.alloc (.cells z32 24)) (some b) := grown_below ((Below.refl _ _).alloc (Nat.le_refl _) _) _
  have hst : Lies (w.alloc (.cells z32 24)) b (CH (H 0) (p + 0) n) 48 ∧ w.grownBy (w.alloc (.cells z32 24)) (some b) ∧ Lies (w.alloc (.cells z32 24)) w.heap.size z32 24 := by
    rw [hH0]
    exact ⟨hl.alloc _, hgz, Lies.new _ _ _⟩
  have HST := Lib.hid hst
  have HS := Lib.hid hs
  have HC := Lib.hid hc
  have HB := Lib.hid (And.intro hb hb1)
  have HLEN := Lib.hid hlen
  have HNX := Lib.hid hHs
  have HZ := Lib.hid hz
  have HH' := Lib.hid hh'
  have HPM := Lib.hid (And.intro hpm (And.intro hm hn))
  clear hh' hst hs hc hb hb1 hlen hHs hz hgz hl hH0 hpm hm hn hh
  go_enter Tryz.func17, Tryz.ntmps17
  go_wp2_with fail
  rw [show (#[Value.int .u8 0, .int .u8 0, .int .u8 0, .int .u8 0, .int .u8 0, .int .u8 0, .int .u8 0, .int .u8 0, .int .u8 0, .int .u8 0, .int .u8 0, .int .u8 0, .int .u8 0, .int .u8 0, .int .u8 0, .int .u8 0, .int .u8 0, .int .u8 0, .int .u8 0, .int .u8 0, .int .u8 0, .int .u8 0, .int .u8 0, .int .u8 0, .int .u8 0, .int .u8 0, .int .u8 0, .int .u8 0, .int .u8 0, .int .u8 0, .int .u8 0, .int .u8 0] : Array Value) = z32 from hz32.symm]
  generalize w.alloc (.cells z32 24) = W0 at HST ⊢
  go_loopw [] (fun W => ∃ j : Nat, j ≤ m - p ∧ Lies W b (CH (H j) (p + j) n) 48 ∧ w.grownBy W (some b) ∧ Lies W w.heap.size z32 24) (fun W => 15 - placeOf b W)
  case atStart => exact ⟨0, Nat.zero_le _, HST.out⟩
  case round =>
    obtain ⟨j, hj, hl, hg, hz1⟩ := hrel
    have HR := Lib.hid (And.intro hl (And.intro hg hz1))
    have c1 : wr.cell? ⟨b, 32, none⟩ = some (.int .u8 ((p + j : Nat) : Int)) := hl.cell 32 (CH_place _ _ _ (HLEN.out j))
    obtain ⟨q, hq⟩ : ∃ q, q = p + j := ⟨_, rfl⟩
    rw [← hq] at c1
    clear hl hg hz1
    by_cases hlt : q < m
    · have m1 : (q : Int) < (m : Int) := by omega
      go_upto_region 2 with fail
      have hcn : ∀ V : World, Lies V b (CH (H j) (p + j) n) 48 → V.cell? ⟨b, 33, none⟩ = some (.int .u8 n) := fun V hV => hV.cell 33 (CH_number _ _ _ (HLEN.out j))
      have c2 := hcn _ HR.out.1.drew
      have hstep := step_any b (H j) (HLEN.out j) (p + j) n (by have := HPM.out.2.1; omega) HPM.out.2.2 wr.drew HR.out.1.drew HB.out.2 (Lies.grown HS.out HR.out.2.1 (by have := HB.out.2; omega)).drew (Lies.grown HC.out HR.out.2.1 (by have := HB.out.2; omega)).drew
      rw [HNX.out j] at hstep
      have HSTEP := Lib.hid hstep
      have HLT := Lib.hid (And.intro hlt hq)
      clear hcn hstep hlt hj c1
      go_region_held3 (fun W => W.cell? ⟨b, 33, none⟩ = some (.int .u8 n)) (first | exact c2 | exact c3)
        (first | (with_reducible refine HSTEP.out.mono ?_; rintro e w2 ⟨rfl, hl2, hg2⟩; have c3 := hl2.cell 33 (CH_number _ _ _ (HLEN.out (j + 1)))))
      have hz2 := Lies.grown HR.out.2.2.drew hg2 (by have := HB.out.1; omega)
      have hg3 := grown_trans (grown_drew HR.out.2.1) hg2
      have h9 := placeOf_eq (HLEN.out (j + 1)) hl2
      have h8 := placeOf_eq (HLEN.out j) HR.out.1
      have hx := HLT.out
      have hx2 := HPM.out
      clear c2 c3 m1
      go_wp2_with fail
      refine ⟨⟨j + 1, by omega, by rw [Nat.add_assoc] at hl2; exact hl2, hg3, hz2⟩, ?_⟩
      rw [h9, h8]
      omega
    · have hd : decide (q < m) = false := by simp; omega
      have hjm : j = m - p := by have := HPM.out.1; omega
      have hjz : p + j = m := by have := HPM.out.1; omega
      have hl' := HR.out.1
      rw [hjm, ← HH'.out] at hl'
      rw [show p + (m - p) = m by have := HPM.out.1; omega] at hl'
      have HL := Lib.hid hl'
      have HG := Lib.hid (And.intro HR.out.2.1 HR.out.2.2)
      have hsz : (B8 h').size = 32 := HZ.out
      have hlen' : h'.length = 32 := by rw [← B8_size]; exact hsz
      clear hl' HR hj
      go_wp2_with (first
        | (refine wpList_load_mid rfl 24 _ rfl b 0 rfl (B8 h').toList _ (fun i v hv => ?_) Tryz.underlying24 rfl ?_ ?_)
        | (refine wpList_store_row rfl 24 _ _ rfl w.heap.size (B8 h') rfl rfl 24 z32 HG.out.2 (by rw [hsz]; kernel_rfl) (by rw [hsz, hz32]; rfl) (B8_one _) ?_))
      · rw [Nat.zero_add]
        rw [Array.getElem?_toList] at hv
        have hi : i < h'.length := by rw [← B8_size]; exact (Array.getElem?_eq_some_iff.1 hv).1
        refine HL.out.cell i ?_
        rw [CH_byte h' m n i hi, ← hv, B8_get h' i hi]
      · rw [Array.length_toList, hsz]; kernel_rfl
      · refine bodyPost_ret (v := .agg (B8 h')) (results_cell_row (p := 4) (ty := 24) (by kernel_rfl) _ _ w.heap.size 24 (B8 h') (0, 0) _ rfl (HG.out.2.setRow _) Tryz.underlying24 rfl (by rw [hsz]; kernel_rfl)) rfl ⟨rfl, ?_, ?_⟩
        · exact HL.out.setRowOther _ _ (by have := HB.out.1; omega)
        · exact grown_setRow HG.out.1 _ _ (Nat.le_refl _)
end Go.Proofs.YtgempifedhiknaaGreatDoor
