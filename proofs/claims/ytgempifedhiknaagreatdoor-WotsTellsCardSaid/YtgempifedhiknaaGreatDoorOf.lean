/-
  Of: the hash of parts, one behind the other. There are at most a million bytes in all.
-/
import Derived.Test.YtgempifedhiknaaGreatDoorBegin
namespace Go.Proofs.YtgempifedhiknaaGreatDoor
set_option maxRecDepth 100000
open Go.RowKit Sha

/-- A slice of bytes: where it begins, what it reads as, how far it could go. -/
structure Part where
  at_ : Option Addr
  xs : List UInt8
  cap : Nat
def Part.val (p : Part) : Value := .slice p.at_ p.xs.length p.cap
def Good (w : World) (p : Part) : Prop := p.xs.length ≤ p.cap ∧ p.cap ≤ maxLen ∧ (0 < p.xs.length → ∃ g off, p.at_ = some ⟨g, off, none⟩ ∧ g < w.heap.size ∧ Src w g off p.xs)
def joined (ps : List Part) : List UInt8 := ps.flatMap (·.xs)

theorem Src.below {B : Nat} {w w' : World} {g off : Nat} {xs : List UInt8} (h : Src w g off xs) (hb : Below B w w') (hg : g < B) : Src w' g off xs := fun j hj =>
  (hb.cell (p := ⟨g, off + j, none⟩) hg).trans (h j hj)
theorem Good.below {w w' : World} {p : Part} (h : Good w p) (hb : Below w.heap.size w w') : Good w' p := by
  obtain ⟨h1, h2, h3⟩ := h
  refine ⟨h1, h2, fun hx => ?_⟩
  obtain ⟨g, off, e, hg, hs⟩ := h3 hx
  exact ⟨g, off, e, Nat.lt_of_lt_of_le hg hb.size, hs.below hb hg⟩
/-- Cells of a row of slices. -/
def PSrc (w : World) (g off : Nat) (ps : List Part) : Prop := ∀ j, j < ps.length → w.cell? ⟨g, off + j, none⟩ = some ((ps.getD j ⟨none, [], 0⟩).val)

theorem joined_take_succ (ps : List Part) (k : Nat) (hk : k < ps.length) : joined (ps.take (k + 1)) = joined (ps.take k) ++ (ps.getD k ⟨none, [], 0⟩).xs := by
  unfold joined
  rw [List.take_succ_eq_append_getElem hk, List.flatMap_append]
  simp [hk]
theorem joined_take_le (ps : List Part) (k : Nat) : (joined (ps.take k)).length ≤ (joined ps).length := by
  conv => rhs; rw [← List.take_append_drop k ps]
  unfold joined
  rw [List.flatMap_append, List.length_append]; omega

/-- While k parts are put: the result's place, the hash at work. -/
def AtO (w : World) (n2 : Nat) (l : List UInt8) (wr : World) : Prop :=
  Lies wr n2 (WK (stAt Sha.start l l.length) (rowAt l l.length) (l.length % 64) l.length) 94 ∧ Lies wr w.heap.size z32 24 ∧ Below w.heap.size w wr ∧ w.heap.size < n2

theorem grown_to_below {w wr w2 : World} {n2 : Nat} (h : Below w.heap.size w wr) (hg : wr.grownBy w2 (some n2)) (hn : w.heap.size ≤ n2) : Below w.heap.size w w2 :=
  ⟨hg.os.trans h.os, hg.tape.trans h.tape, hg.output.trans h.output, Nat.le_trans h.size hg.size, fun k hk => (hg.block k (Nat.lt_of_lt_of_le hk h.size) (fun e => by have := Option.some.inj e; omega)).trans (h.block k hk)⟩

/-- put, of a part. -/
theorem put_part (l : List UInt8) (p : Part) (hl : l.length + p.xs.length ≤ 1000000) (w : World) (b : Nat) (hb1 : b ≠ 1) (hb0 : b ≠ 0) (hbg : ∀ g off, 0 < p.xs.length → p.at_ = some ⟨g, off, none⟩ → g ≠ b)
    (hp : Good w p) (hb : Lies w b (WK (stAt Sha.start l l.length) (rowAt l l.length) (l.length % 64) l.length) 94) (hg : Cubes w) :
    Calls Tryz.prog 27 #[.pointer (some ⟨b, 0, none⟩), .slice p.at_ p.xs.length p.cap] w fun e w' => e = .returned (.tuple #[]) ∧
      Lies w' b (WK (stAt Sha.start (l ++ p.xs) (l ++ p.xs).length) (rowAt (l ++ p.xs) (l ++ p.xs).length) ((l ++ p.xs).length % 64) (l ++ p.xs).length) 94 ∧ w.grownBy w' (some b) := by
  obtain ⟨h1, h2, h3⟩ := hp
  by_cases hx : 0 < p.xs.length
  · obtain ⟨g, off, e, _, hs⟩ := h3 hx
    exact put_any _ l p.xs hl w b g off p.cap p.at_ hb1 (hbg g off hx e) h1 h2 (fun _ => ⟨e, hs⟩) hb hg
  · exact put_any _ l p.xs hl w b 0 0 p.cap p.at_ hb1 (fun e => hb0 e.symm) h1 h2 (fun h => absurd h hx) hb hg

set_option maxRecDepth 100000 in
set_option maxHeartbeats 2000000 in
theorem of_any (ps : List Part) (w : World) (v : Option Addr) (cap : Nat) (hm : ps.length ≤ maxLen) (hgood : ∀ p, p ∈ ps → Good w p)
    (hv : 0 < ps.length → ∃ g off, v = some ⟨g, off, none⟩ ∧ g < w.heap.size ∧ PSrc w g off ps) (hlen : (joined ps).length ≤ 1000000) (hs : Starts w) (hc : Cubes w) :
    Calls Tryz.prog 12 #[.slice v ps.length cap] w fun e w' => e = .returned (.agg (B8 (sha (joined ps)))) ∧ Below w.heap.size w w' := by
  have h1n : 1 < w.heap.size := Lies.lt hc
  have HG := Lib.hid hgood
  have HV := Lib.hid hv
  have HL := Lib.hid hlen
  have HS := Lib.hid hs
  have HC := Lib.hid hc
  have H1 := Lib.hid h1n
  clear hgood hv hlen hs hc h1n
  go_enter Tryz.func12, Tryz.ntmps12
  go_wp2_with fail
  refine (begin_any (w.alloc (.cells z32 24)) (HS.out.alloc _)).mono ?_
  rintro e w1 ⟨rfl, hb1⟩
  have HB1 := Lib.hid hb1
  clear hb1
  have hz := zero51
  go_wp2_with (first | (refine wpList_store_row rfl 94 _ _ rfl w1.heap.size (WK Sha.start zrow 0 0) rfl rfl 94 (WK zero8 zrow 0 0) (Lies.new w1 _ _) info51 size51 (WK_one _ _ _ _) ?_))
  have hat : AtO w w1.heap.size [] ((w1.alloc (.cells (WK zero8 zrow 0 0) 94)).setRow w1.heap.size (WK Sha.start zrow 0 0)) := by
    have hs1 := HB1.out.size
    simp at hs1
    have hb := (((Below.refl w.heap.size w).alloc (Nat.le_refl _) (.cells z32 24)).trans (HB1.out.mono (by simp)))
    refine ⟨(Lies.new w1 _ 94).setRow _, ?_, below_setRow (hb.alloc (by omega) _) _ _ (by omega), by omega⟩
    exact (((Lies.new w z32 24).below HB1.out (by simp)).alloc _).setRowOther _ _ (by omega)
  have hn2 : w1.heap.size ≠ w.heap.size := by have := hat.2.2.2; omega
  generalize (w1.alloc (.cells (WK zero8 zrow 0 0) 94)).setRow w1.heap.size (WK Sha.start zrow 0 0) = W1 at hat ⊢
  generalize w1.heap.size = n2 at hat hn2 ⊢
  have HAT := Lib.hid hat
  have HN2 := Lib.hid hat.2.2.2
  clear hat hn2 HB1 hz
  go_loopw [9] (fun i wr => ∃ k : Nat, k ≤ ps.length ∧ i = .int .i64 k ∧ AtO w n2 (joined (ps.take k)) wr) (fun i _ => ps.length - (intOf i).toNat)
  case atStart => exact ⟨0, by omega, rfl, HAT.out⟩
  case round =>
    obtain ⟨k, hk, rfl, hat⟩ := hrel
    have HR := Lib.hid hat
    clear hat HAT
    by_cases hlt : k < ps.length
    · obtain ⟨g, off, rfl, hgw, hps⟩ := HV.out (by omega)
      obtain ⟨p, hp⟩ : ∃ p, p = ps.getD k ⟨none, [], 0⟩ := ⟨_, rfl⟩
      have hcell : wr.cell? ⟨g, off + k, none⟩ = some (.slice p.at_ p.xs.length p.cap) := by
        rw [hp]
        exact (HR.out.2.2.1.cell (p := ⟨g, off + k, none⟩) hgw).trans (hps k hlt)
      have hmem : p ∈ ps := by rw [hp]; simp [hlt]
      have hgp := (HG.out p hmem).below HR.out.2.2.1
      have hsucc : joined (ps.take (k + 1)) = joined (ps.take k) ++ p.xs := by rw [hp]; exact joined_take_succ ps k hlt
      have hll : (joined (ps.take k)).length + p.xs.length ≤ 1000000 := by
        have h1 := joined_take_le ps (k + 1)
        rw [hsucc, List.length_append] at h1
        have := HL.out
        omega
      have hcu : Cubes wr := HC.out.below HR.out.2.2.1 H1.out
      have hbg : ∀ g off, 0 < p.xs.length → p.at_ = some ⟨g, off, none⟩ → g ≠ n2 := by
        intro g' off' hx he
        obtain ⟨g2, off2, e2, hlt2, _⟩ := (HG.out p hmem).2.2 hx
        rw [he] at e2
        simp at e2
        have := HN2.out
        omega
      have hput := put_part (joined (ps.take k)) p hll wr n2 (by have := HN2.out; have := H1.out; omega) (by have := HN2.out; omega) hbg hgp HR.out.1 hcu
      rw [← hsucc] at hput
      have HPUT := Lib.hid hput
      clear hput hbg hcu hll hsucc hgp hmem hps hp
      have m1 : (k : Int) < (ps.length : Int) := by omega
      have hkm : k < 9223372036854775807 := by unfold maxLen at hm; omega
      go_wp2_with fail
      refine HPUT.out.mono ?_
      rintro e w3 ⟨rfl, u1, u2⟩
      have hP : AtO w n2 (joined (ps.take (k + 1))) w3 := ⟨u1, HR.out.2.1.grown u2 (by have := HN2.out; omega), grown_to_below HR.out.2.2.1 u2 (by have := HN2.out; omega), HN2.out⟩
      have HP := Lib.hid hP
      clear u1 u2 hP HPUT hcell
      go_wp2_with fail
      go_roundw
      case rel => exact ⟨k + 1, by omega, by go_num, HP.out⟩
      case measure => simp [intOf]; omega
    · have hd : decide (k < ps.length) = false := by simp; omega
      have hkp : k = ps.length := by omega
      have hat := HR.out
      rw [hkp, List.take_length] at hat
      have HX := Lib.hid hat
      clear hat HR hkp hlt hk
      go_wp2_with fail
      refine (end_sha (joined ps) HL.out wr n2 (by have := HN2.out; have := H1.out; omega) HX.out.1 (HC.out.below HX.out.2.2.1 H1.out)).mono ?_
      rintro e w4 ⟨rfl, u2⟩
      have hz4 : Lies w4 w.heap.size z32 24 := HX.out.2.1.grown u2 (by have := HN2.out; omega)
      have hb4 : Below w.heap.size w w4 := grown_to_below HX.out.2.2.1 u2 (by have := HN2.out; omega)
      have hz : (B8 (sha (joined ps))).size = 32 := by rw [B8_size]; rfl
      have HZ4 := Lib.hid hz4
      have HB4 := Lib.hid hb4
      clear hz4 hb4 u2
      go_wp2_with (refine wpList_store_row rfl 24 _ _ rfl w.heap.size (B8 (sha (joined ps))) rfl rfl 24 _ HZ4.out (by rw [hz]; kernel_rfl) (by rw [hz]; rfl) (B8_one _) ?_)
      refine bodyPost_ret (v := .agg (B8 (sha (joined ps)))) (results_cell_row (p := 2) (ty := 24) (by kernel_rfl) _ _ w.heap.size 24 (B8 (sha (joined ps))) (0, 0) _ rfl (HZ4.out.setRow _) Tryz.underlying24 rfl (by rw [hz]; kernel_rfl)) rfl ⟨rfl, ?_⟩
      exact below_setRow HB4.out _ _ (Nat.le_refl _)
end Go.Proofs.YtgempifedhiknaaGreatDoor
