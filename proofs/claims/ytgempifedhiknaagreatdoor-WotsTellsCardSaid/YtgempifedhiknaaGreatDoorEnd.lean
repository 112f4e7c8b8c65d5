/-
  end: the mark, the length, and the hash. The number of bytes is at most a million.
-/
import Derived.Test.YtgempifedhiknaaGreatDoorTurn
import Derived.Test.YtgempifedhiknaaGreatDoorBytes
import Derived.Deep.Cut
namespace Go.Proofs.YtgempifedhiknaaGreatDoor
set_option maxRecDepth 100000
open Go.RowKit Sha

/-- The last row, its first 56 bytes known, and j - 56 bytes of the length. -/
def lrow (q : List UInt8) (n j : Nat) : List UInt8 := q ++ ((be64 n).take (j - 56) ++ List.replicate (64 - j) 0)
theorem lrow_length (q : List UInt8) (n j : Nat) (hq : q.length = 56) (h1 : 56 ≤ j) (h2 : j ≤ 64) : (lrow q n j).length = 64 := by
  have : (be64 n).length = 8 := rfl
  unfold lrow; rw [List.length_append, List.length_append, List.length_take, List.length_replicate]; omega
theorem lrow_set (q : List UInt8) (n j : Nat) (hq : q.length = 56) (h1 : 56 ≤ j) (h2 : j < 64) : (lrow q n j).set j (UInt8.ofNat (n / 2 ^ (8 * (63 - j)))) = lrow q n (j + 1) := by
  unfold lrow
  rw [List.set_append_right _ _ (by omega), hq]
  congr 1
  obtain ⟨i, rfl⟩ : ∃ i, j = 56 + i := ⟨j - 56, by omega⟩
  have hi : i < 8 := by omega
  clear h1 h2
  match i, hi with
  | 0, _ => rfl
  | 1, _ => rfl
  | 2, _ => rfl
  | 3, _ => rfl
  | 4, _ => rfl
  | 5, _ => rfl
  | 6, _ => rfl
  | 7, _ => simp [be64]
theorem lrow_full (q : List UInt8) (n : Nat) : lrow q n 64 = q ++ be64 n := by
  unfold lrow; simp [be64]
theorem u8_nat (n : Nat) : ((n : Nat) : Int) % 256 = ((UInt8.ofNat n).toNat : Int) := by rw [UInt8.toNat_ofNat']; omega
theorem u8_div (n e : Nat) : (n : Int) / 2 ^ e % 256 = ((UInt8.ofNat (n / 2 ^ e)).toNat : Int) := by
  rw [← u8_nat]; simp
theorem all8 (all : Nat) (h : all ≤ 1000000) : IntKind.u64.wrap ((all : Int) * 8) = ((all * 8 : Nat) : Int) := by
  rw [IntKind.wrap_u64]; omega

/-- What is left of 'end' is the same in both cases. -/
def AtE (w : World) (b : Nat) (s : Eight) (row : List UInt8) (held all : Nat) (wr : World) : Prop :=
  Lies wr b (WK s row held all) 94 ∧ Lies wr w.heap.size z32 24 ∧ Cubes wr ∧ (w.alloc (.cells z32 24)).grownBy wr (some b) ∧ b < w.heap.size
theorem AtE.drewN {w : World} {b : Nat} {s : Eight} {row : List UInt8} {held all : Nat} {wr : World} (h : AtE w b s row held all wr) (q : Nat) : AtE w b s row held all (wr.drewN q) :=
  ⟨h.1, h.2.1, h.2.2.1, grown_drewN h.2.2.2.1 q, h.2.2.2.2⟩
theorem AtE.drew {w : World} {b : Nat} {s : Eight} {row : List UInt8} {held all : Nat} {wr : World} (h : AtE w b s row held all wr) : AtE w b s row held all wr.drew :=
  ⟨h.1, h.2.1, h.2.2.1, grown_drew h.2.2.2.1, h.2.2.2.2⟩
theorem AtE.store {w : World} {b : Nat} {s : Eight} {row : List UInt8} {held all : Nat} {wr : World} (h : AtE w b s row held all wr) (hb : b ≠ 1) (j : Nat) (hj : j < row.length) (x : UInt8) :
    AtE w b s (row.set j x) held all (wr.setCell ⟨b, 8 + j, none⟩ (.int .u8 x.toNat)) := by
  obtain ⟨h1, h2, h3, h4, h5⟩ := h
  have := h1.set (8 + j) (.int .u8 x.toNat)
  rw [WK_set_row _ _ _ _ _ hj] at this
  exact ⟨this, h2.other _ _ (by simp; omega), h3.other _ _ (by simp; omega), grown_set h4 _ _, h5⟩
theorem AtE.turned {w : World} {b : Nat} {s s' : Eight} {row row' : List UInt8} {held held' all : Nat} {wr w2 : World} (h : AtE w b s row held all wr) (hb : b ≠ 1)
    (h1 : Lies w2 b (WK s' row' held' all) 94) (hg : wr.grownBy w2 (some b)) : AtE w b s' row' held' all w2 :=
  ⟨h1, h.2.1.grown hg (by have := h.2.2.2.2; omega), Lies.grown h.2.2.1 hg (fun e => hb e.symm), grown_trans h.2.2.2.1 hg, h.2.2.2.2⟩

theorem fin_grown {w W3 W4 : World} {b : Nat} {o : Obj} (h : (w.alloc o).grownBy W3 (some b)) (hb : Below W3.heap.size W3 W4) (cs : Array Value) : w.grownBy (W4.setRow w.heap.size cs) (some b) := by
  have hs := h.size
  simp at hs
  refine ⟨hb.os.trans h.os, hb.tape.trans h.tape, hb.output.trans h.output, by have := hb.size; simp; omega, fun k hk hne => ?_⟩
  rw [setRow_other W4 w.heap.size k cs (by omega), hb.block k (by omega), h.block k (by simp; omega) hne]
  exact Below.heap_alloc w o k hk

set_option maxRecDepth 100000 in
set_option maxHeartbeats 4000000 in
theorem end_any (s : Eight) (row : List UInt8) (held all : Nat) (hr : row.length = 64) (hh : held < 64) (ha : all ≤ 1000000) (q : List UInt8) (hq : q.length = 56) (s2 : Eight) (held2 : Nat)
    (hcase : (held < 56 ∧ s2 = s ∧ held2 = held ∧ row.set held 128 = lrow q (all * 8) 56) ∨ (56 ≤ held ∧ s2 = mix s (row.set held 128) ∧ held2 = 0 ∧ zrow = lrow q (all * 8) 56))
    (w : World) (b : Nat) (hb1 : b ≠ 1) (hb : Lies w b (WK s row held all) 94) (hg : Cubes w) :
    Calls Tryz.prog 28 #[.pointer (some ⟨b, 0, none⟩)] w fun e w' => e = .returned (.agg (B8 (mix s2 (q ++ be64 (all * 8))).bytes)) ∧ w.grownBy w' (some b) := by
  have hat : AtE w b s row held all (w.alloc (.cells z32 24)) := ⟨hb.alloc _, Lies.new w _ _, Lies.alloc hg _, grown_refl _ _, hb.lt⟩
  have HAT := Lib.hid hat
  clear hat hb hg
  have hn8 := all8 all ha
  generalize all * 8 = n at hn8 hcase ⊢
  have HN8 := Lib.hid hn8
  have HQ := Lib.hid hq
  have HR := Lib.hid hr
  have HC := Lib.hid hcase
  have HB1 := Lib.hid hb1
  clear hn8 hq hr hcase ha hb1
  go_enter Tryz.func28, Tryz.ntmps28
  go_wp2_with fail
  change Code.wp _ _ _ _ (w.alloc (.cells z32 24))
  generalize w.alloc (.cells z32 24) = W0 at HAT ⊢
  have hc := HAT.out.1.cell (8 + held) (WK_row _ _ _ _ held (by have := HR.out; omega))
  have hf : W0.frozen? ⟨b, 8 + held, none⟩ = false := HAT.out.1.free _
  have hd := HAT.out.1.cell 72 (WK_held _ _ _ _ HR.out)
  have m1 : (held : Int) < 64 := by omega
  generalize row.getD held 0 = old at hc
  go_still_tail 8, (by kernel_rfl)
  change wpList _ _ _ _ _ W0.drew
  have HO := Lib.hid (HAT.out.store HB1.out held (by have := HR.out; omega) 128).drew
  have hd2 : (W0.setCell ⟨b, 8 + held, none⟩ (.int .u8 128)).drew.cell? ⟨b, 72, none⟩ = some (.int .i64 held) := HO.out.1.cell 72 (WK_held _ _ _ _ (by rw [List.length_set]; exact HR.out))
  rcases HC.out with ⟨x1, x2, x3, x4⟩ | ⟨x1, x2, x3, x4⟩
  · have x5 : ¬ (56 : Int) ≤ (held : Int) := by omega
    clear HC HAT
    go_upto_region 4 with (fail)
    have HE : Hid (AtE w b s2 (lrow q n 56) held2 all (W0.setCell ⟨b, 8 + held, none⟩ (.int .u8 128)).drew) := by
      have := HO.out
      rw [x4] at this
      rw [x2, x3]; exact this
    clear x1 x2 x3 x4 x5 hd2 hd hc hf HO
    generalize (W0.setCell ⟨b, 8 + held, none⟩ (.int .u8 128)).drew = W2 at HE ⊢
    have l56 : (lrow q n 56).length = 64 := lrow_length q n 56 HQ.out (by omega) (by omega)
    have hall := HE.out.1.cell 73 (WK_all _ _ _ _ l56)
    have hn8 := HN8.out
    clear l56
    go_wp2_with fail
    clear hall hn8 HN8
    go_loopw [4] (fun i wr => ∃ j : Nat, 56 ≤ j ∧ j ≤ 64 ∧ i = .int .i64 j ∧ AtE w b s2 (lrow q n j) held2 all wr) (fun i _ => 64 - (intOf i).toNat)
    case atStart => exact ⟨56, by omega, by omega, rfl, HE.out⟩
    case round =>
      obtain ⟨j, hj, hj2, rfl, hat⟩ := hrel
      have HA := Lib.hid hat
      clear hat HE
      by_cases hlt : j < 64
      · have lj := lrow_length q n j HQ.out hj hj2
        have hc := HA.out.1.cell (8 + j) (WK_row _ _ _ _ j (by omega))
        generalize (lrow q n j).getD j 0 = old2 at hc
        have hf : wr.frozen? ⟨b, 8 + j, none⟩ = false := HA.out.1.free _
        have ho := (HA.out.store HB1.out j (by omega) (UInt8.ofNat (n / 2 ^ (8 * (63 - j))))).drew
        rw [lrow_set q n j HQ.out hj hlt] at ho
        have HO := Lib.hid ho
        clear ho lj
        have w0 : IntKind.i64.wrap (63 - (j : Int)) = 63 - (j : Int) := IntWalk.i64_in _ (by omega)
        have w1 : IntKind.i64.wrap (8 * (63 - (j : Int))) = 8 * (63 - (j : Int)) := IntWalk.i64_in _ (by omega)
        have l0 : (0 : Int) ≤ 8 * (63 - (j : Int)) := by omega
        have l1 : (0 : Int) ≤ 63 - (j : Int) := by omega
        have l2 : (j : Int) ≤ 63 := by omega
        have l3 : j ≤ 63 := by omega
        have m0 : 8 * (63 - (j : Int)) ≤ 64 := by omega
        have m4 : (j : Int) < 64 := by omega
        have t0 : (8 * (63 - (j : Int))).toNat = 8 * (63 - j) := by omega
        go_wp2_with fail
        go_still_tail 11, (by kernel_rfl)
        change wpList _ _ _ _ _ wr.drew
        clear w0 w1 l0 l1 l2 l3 m0 t0
        go_wp2_with fail
        rw [u8_div]
        clear hc hf
        refine ⟨⟨j + 1, by omega, by omega, rfl, HO.out⟩, ?_⟩
        simp [intOf]; omega
      · have hd64 : decide ((j : Int) < 64) = false := by simp; omega
        have hj64 : j = 64 := by omega
        have hat := HA.out
        rw [hj64, lrow_full] at hat
        have HF := Lib.hid hat
        clear hat HA hj64 hlt hj hj2
        have hlen : (q ++ be64 n).length = 64 := by rw [List.length_append, HQ.out]; rfl
        have HLEN := Lib.hid hlen
        clear hlen
        go_wp2_with fail
        refine (turn_any s2 (q ++ be64 n) held2 all HLEN.out wr b HF.out.1 HF.out.2.2.1).mono ?_
        rintro e W3 ⟨rfl, t1, t2⟩
        have HG := Lib.hid (HF.out.turned HB1.out t1 t2)
        clear t1 t2 HF
        go_wp2_with fail
        refine (bytes_any (mix s2 (q ++ be64 n)) _ 94 W3 b HG.out.1).mono ?_
        rintro e W4 ⟨rfl, hb4⟩
        have hz4 : Lies W4 w.heap.size z32 24 := HG.out.2.1.below hb4 HG.out.2.1.lt
        have hz : (B8 (mix s2 (q ++ be64 n)).bytes).size = 32 := by rw [B8_size]; rfl
        have HZ4 := Lib.hid hz4
        have HB4 := Lib.hid hb4
        clear hz4 hb4
        go_wp2_with (refine wpList_store_row rfl 24 _ _ rfl w.heap.size (B8 (mix s2 (q ++ be64 n)).bytes) rfl rfl 24 _ HZ4.out (by rw [hz]; kernel_rfl) (by rw [hz]; rfl) (B8_one _) ?_)
        refine bodyPost_ret (v := .agg (B8 (mix s2 (q ++ be64 n)).bytes)) (results_cell_row (p := 2) (ty := 24) (by kernel_rfl) _ _ w.heap.size 24 (B8 (mix s2 (q ++ be64 n)).bytes) (0, 0) _ rfl (HZ4.out.setRow _) Tryz.underlying24 rfl (by rw [hz]; kernel_rfl)) rfl ⟨rfl, ?_⟩
        exact fin_grown HG.out.2.2.2.1 HB4.out _
  · have x5 : (56 : Int) ≤ (held : Int) := by omega
    clear HC HAT
    go_upto_region 4 with (fail)
    refine (turn_any s (row.set held 128) held all (by rw [List.length_set]; exact HR.out) _ b HO.out.1 HO.out.2.2.1).mono ?_
    rintro e W2 ⟨rfl, t1, t2⟩
    have HE : Hid (AtE w b s2 (lrow q n 56) held2 all W2) := by
      have := HO.out.turned HB1.out t1 t2
      rw [x4] at this
      rw [x2, x3]; exact this
    clear x1 x2 x3 x4 x5 hd2 hd hc hf HO t1 t2
    go_upto_region 4 with (fail)
    have l56 : (lrow q n 56).length = 64 := lrow_length q n 56 HQ.out (by omega) (by omega)
    have hall := HE.out.1.cell 73 (WK_all _ _ _ _ l56)
    have hn8 := HN8.out
    clear l56
    go_wp2_with fail
    clear hall hn8 HN8
    go_loopw [4] (fun i wr => ∃ j : Nat, 56 ≤ j ∧ j ≤ 64 ∧ i = .int .i64 j ∧ AtE w b s2 (lrow q n j) held2 all wr) (fun i _ => 64 - (intOf i).toNat)
    case atStart => exact ⟨56, by omega, by omega, rfl, HE.out⟩
    case round =>
      obtain ⟨j, hj, hj2, rfl, hat⟩ := hrel
      have HA := Lib.hid hat
      clear hat HE
      by_cases hlt : j < 64
      · have lj := lrow_length q n j HQ.out hj hj2
        have hc := HA.out.1.cell (8 + j) (WK_row _ _ _ _ j (by omega))
        generalize (lrow q n j).getD j 0 = old2 at hc
        have hf : wr.frozen? ⟨b, 8 + j, none⟩ = false := HA.out.1.free _
        have ho := (HA.out.store HB1.out j (by omega) (UInt8.ofNat (n / 2 ^ (8 * (63 - j))))).drew
        rw [lrow_set q n j HQ.out hj hlt] at ho
        have HO := Lib.hid ho
        clear ho lj
        have w0 : IntKind.i64.wrap (63 - (j : Int)) = 63 - (j : Int) := IntWalk.i64_in _ (by omega)
        have w1 : IntKind.i64.wrap (8 * (63 - (j : Int))) = 8 * (63 - (j : Int)) := IntWalk.i64_in _ (by omega)
        have l0 : (0 : Int) ≤ 8 * (63 - (j : Int)) := by omega
        have l1 : (0 : Int) ≤ 63 - (j : Int) := by omega
        have l2 : (j : Int) ≤ 63 := by omega
        have l3 : j ≤ 63 := by omega
        have m0 : 8 * (63 - (j : Int)) ≤ 64 := by omega
        have m4 : (j : Int) < 64 := by omega
        have t0 : (8 * (63 - (j : Int))).toNat = 8 * (63 - j) := by omega
        go_wp2_with fail
        go_still_tail 11, (by kernel_rfl)
        change wpList _ _ _ _ _ wr.drew
        clear w0 w1 l0 l1 l2 l3 m0 t0
        go_wp2_with fail
        rw [u8_div]
        clear hc hf
        refine ⟨⟨j + 1, by omega, by omega, rfl, HO.out⟩, ?_⟩
        simp [intOf]; omega
      · have hd64 : decide ((j : Int) < 64) = false := by simp; omega
        have hj64 : j = 64 := by omega
        have hat := HA.out
        rw [hj64, lrow_full] at hat
        have HF := Lib.hid hat
        clear hat HA hj64 hlt hj hj2
        have hlen : (q ++ be64 n).length = 64 := by rw [List.length_append, HQ.out]; rfl
        have HLEN := Lib.hid hlen
        clear hlen
        go_wp2_with fail
        refine (turn_any s2 (q ++ be64 n) held2 all HLEN.out wr b HF.out.1 HF.out.2.2.1).mono ?_
        rintro e W3 ⟨rfl, t1, t2⟩
        have HG := Lib.hid (HF.out.turned HB1.out t1 t2)
        clear t1 t2 HF
        go_wp2_with fail
        refine (bytes_any (mix s2 (q ++ be64 n)) _ 94 W3 b HG.out.1).mono ?_
        rintro e W4 ⟨rfl, hb4⟩
        have hz4 : Lies W4 w.heap.size z32 24 := HG.out.2.1.below hb4 HG.out.2.1.lt
        have hz : (B8 (mix s2 (q ++ be64 n)).bytes).size = 32 := by rw [B8_size]; rfl
        have HZ4 := Lib.hid hz4
        have HB4 := Lib.hid hb4
        clear hz4 hb4
        go_wp2_with (refine wpList_store_row rfl 24 _ _ rfl w.heap.size (B8 (mix s2 (q ++ be64 n)).bytes) rfl rfl 24 _ HZ4.out (by rw [hz]; kernel_rfl) (by rw [hz]; rfl) (B8_one _) ?_)
        refine bodyPost_ret (v := .agg (B8 (mix s2 (q ++ be64 n)).bytes)) (results_cell_row (p := 2) (ty := 24) (by kernel_rfl) _ _ w.heap.size 24 (B8 (mix s2 (q ++ be64 n)).bytes) (0, 0) _ rfl (HZ4.out.setRow _) Tryz.underlying24 rfl (by rw [hz]; kernel_rfl)) rfl ⟨rfl, ?_⟩
        exact fin_grown HG.out.2.2.2.1 HB4.out _
end Go.Proofs.YtgempifedhiknaaGreatDoor
