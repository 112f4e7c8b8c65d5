/-
  The chapter's example: it holds in every world, and turns nothing that is there.
-/
import Derived.Test.YtjbjagdpemnhiaaGreatRText
namespace Go.Proofs.YtjbjagdpemnhiaaGreat
open Go.RowKit

theorem Only.below {w0 : World} {g : Nat} {w w' : World} {o : Option Nat} (h : Only g w w' o) (hb : Below w0.heap.size w0 w) (hg : w0.heap.size ≤ g) (ho : ∀ x, o = some x → w0.heap.size ≤ x) : Below w0.heap.size w0 w' :=
  ⟨h.os.trans hb.os, h.tape.trans hb.tape, h.output.trans hb.output, Nat.le_trans hb.size h.size, fun k hk => (h.block k (Nat.lt_of_lt_of_le hk hb.size) (by omega) (fun e => by have := ho k e.symm; omega)).trans (hb.block k hk)⟩
theorem WrV.block {w : World} {B g : Nat} {v : Value} {l : List UInt8} (h : WrV w B g v l) : ∀ x, v.ownBlock = some x → B ≤ x := by
  intro x hx
  rcases h.2.1.2 with ⟨rfl, _⟩ | ⟨g2, cap, cur, rfl, h2, _⟩
  · cases hx
  · have : g2 = x := by simpa [Value.ownBlock] using hx
    omega
theorem Wr.wrv {w : World} {B g : Nat} {l : List UInt8} (h : Wr w B g l) : ∃ v, WrV w B g v l := by
  obtain ⟨v, h1, h2, h3, h4⟩ := h
  exact ⟨v, h1, h2, h3, h4⟩
theorem Rdr.only {w w' : World} {g k g' : Nat} {xs : List UInt8} {c a : Nat} {sp : Bool} (h : Rdr w g k xs c a sp) (ho : Only g' w w' none) (hg : g ≠ g') (hk : k ≠ g') : Rdr w' g k xs c a sp :=
  ⟨(ho.block g h.1.lt hg (by simp)).trans h.1, h.2.1.only ho h.2.2.2.1 hk, h.2.2.1, Nat.lt_of_lt_of_le h.2.2.2.1 ho.size, h.2.2.2.2⟩
def exB : List UInt8 := [1, 2, 0, 2, 97, 98, 1]
theorem ex_bytes : ([] ++ beN 258 2 ++ (beN (⟨#[97, 98]⟩ : ByteArray).size 2 ++ (⟨#[97, 98]⟩ : ByteArray).data.toList)) ++ [if true then 1 else 0] = exB := by decide

set_option maxRecDepth 100000 in
set_option maxHeartbeats 1000000 in
theorem awake_more (w : World) : Calls Tryz.prog 6 #[] w fun e w' => e = .returned (.bool true) ∧ Below w.heap.size w w' ∧ 0 < w'.heap.size := by
  go_enter Tryz.func6, Tryz.ntmps6
  go_wp2_with fail
  refine (newwriter_any w).mono ?_
  rintro e w1 ⟨rfl, hw1, hb1⟩
  obtain ⟨v1, hw1⟩ := hw1.wrv
  have H1 := Lib.hid (And.intro hw1 hb1)
  clear hw1 hb1
  go_wp2_with fail
  refine (u16_any w1 w.heap.size w.heap.size v1 [] 258 H1.out.1 H1.out.2.size (by simp) (by omega)).mono ?_
  rintro e w2 ⟨rfl, v2, hw2, ho2, ha2⟩
  have H2 := Lib.hid (And.intro hw2 (ho2.below H1.out.2 (Nat.le_refl _) H1.out.1.block))
  clear hw2 ho2 ha2
  go_wp2_with fail
  refine (text_any w2 w.heap.size w.heap.size v2 _ ⟨#[97, 98]⟩ H2.out.1 H2.out.2.size (by decide) (by decide)).mono ?_
  rintro e w3 ⟨rfl, v3, hw3, ho3, ha3⟩
  have H3 := Lib.hid (And.intro hw3 (ho3.below H2.out.2 (Nat.le_refl _) H2.out.1.block))
  clear hw3 ho3 ha3
  go_wp2_with fail
  refine (flag_any w3 w.heap.size w.heap.size v3 _ true H3.out.1 H3.out.2.size (by decide)).mono ?_
  rintro e w4 ⟨rfl, v4, hw4, ho4, ha4⟩
  have H4 := Lib.hid (And.intro hw4 (ho4.below H3.out.2 (Nat.le_refl _) H3.out.1.block))
  rw [ex_bytes] at H4
  clear hw4 ho4 ha4
  go_wp2_with fail
  refine (wbytes_some w4 w.heap.size w.heap.size v4 exB H4.out.1 (by decide) (by decide)).mono ?_
  rintro e w5 ⟨k, c, rfl, hown5, hb5⟩
  have H5 := Lib.hid (And.intro (own_src hown5) (H4.out.2.trans (hb5.mono H4.out.2.size)))
  have hk5 : k < w5.heap.size := own_lt hown5 rfl
  have HK := Lib.hid hk5
  have hstr := str_of_src (c := c) H5.out.1
  have hlen : exB.length = 7 := rfl
  clear hown5 hb5 hk5 H1 H2 H3 H4
  go_wp2_with fail
  refine (newreader_some w5 k 0 c exB H5.out.1 HK.out (by decide) (by decide)).mono ?_
  rintro e w6 ⟨g6, k6, c6, rfl, hg6, hkk6, hr6, hb6⟩
  have hs6 : Src w6 k 0 exB := fun j hj => (hb6.cell (p := ⟨k, 0 + j, none⟩) HK.out).trans (H5.out.1 j hj)
  have H6 := Lib.hid (And.intro hr6 (And.intro hs6 (And.intro (Nat.lt_of_lt_of_le HK.out hb6.size) (H5.out.2.trans (hb6.mono H5.out.2.size)))))
  have G6 := Lib.hid (Nat.le_trans H5.out.2.size hg6)
  clear hr6 hs6 hb6 hg6 hstr
  go_wp2_with fail
  refine (newreader_some w6 k 0 c exB H6.out.2.1 H6.out.2.2.1 (by decide) (by decide)).mono ?_
  rintro e w7 ⟨g7, k7, c7, rfl, hg7, hkk7, hr7, hb7⟩
  have hs7 : Src w7 k 0 exB := fun j hj => (hb7.cell (p := ⟨k, 0 + j, none⟩) H6.out.2.2.1).trans (H6.out.2.1 j hj)
  have hr67 := H6.out.1.below hb7
  have hne : g6 ≠ g7 := by have := H6.out.1.1.lt; omega
  have hk67 : k6 ≠ g7 := by have := H6.out.1.2.2.2.1; omega
  have hk76 : k7 ≠ g6 := by have := H6.out.1.1.lt; omega
  have H7 := Lib.hid (And.intro hr67 (And.intro hr7 (H6.out.2.2.2.trans (hb7.mono H6.out.2.2.2.size))))
  have G7 := Lib.hid (Nat.le_trans H6.out.2.2.2.size hg7)
  have hstr := str_of_src (c := c) hs7
  have hbs : (⟨exB.toArray⟩ : ByteArray) = ⟨#[1, 2, 0, 2, 97, 98, 1]⟩ := rfl
  rw [hbs, hlen] at hstr
  clear hr67 hr7 hb7 hs7 hg7 hbs H5 hlen
  go_wp2_with fail
  have q8 := count_good w7 g6 k6 exB c6 0 258 H7.out.1 (by decide) (by decide)
  rw [show (beVal ((exB.drop 0).take 2) : Int) = 258 by decide] at q8
  refine q8.mono ?_
  rintro e w8 ⟨rfl, hr8, ho8⟩
  have H8 := Lib.hid (And.intro hr8 (And.intro (H7.out.2.1.only ho8 (Ne.symm hne) hk76) (ho8.below H7.out.2.2 G6.out (by simp))))
  clear hr8 ho8 q8 hstr
  go_wp2_with fail
  have q9 := rtext_some w8 g6 k6 exB c6 2 2 2 [97, 98] H8.out.1 (by decide) (by decide) (by decide) (by decide) (by decide)
  rw [show (⟨[97, 98].toArray⟩ : ByteArray) = ⟨#[97, 98]⟩ from rfl] at q9
  refine q9.mono ?_
  rintro e w9 ⟨rfl, hr9, ho9⟩
  have H9 := Lib.hid (And.intro hr9 (And.intro (H8.out.2.1.only ho9 (Ne.symm hne) hk76) (ho9.below H8.out.2.2 G6.out (by simp))))
  clear hr9 ho9 q9
  go_wp2_with fail
  have q10 := flag_good w9 g6 k6 exB c6 6 H9.out.1 (by decide) (by decide)
  rw [show decide (beVal ((exB.drop 6).take 1) = 1) = true by decide] at q10
  refine q10.mono ?_
  rintro e w10 ⟨rfl, hr10, ho10⟩
  have H10 := Lib.hid (And.intro hr10 (And.intro (H9.out.2.1.only ho10 (Ne.symm hne) hk76) (ho10.below H9.out.2.2 G6.out (by simp))))
  clear hr10 ho10 q10
  go_wp2_with fail
  have q11 := end_good w10 g6 k6 exB c6 7 H10.out.1 (by decide)
  rw [show decide (7 = exB.length) = true by decide] at q11
  refine q11.mono ?_
  rintro e w11 ⟨rfl, hb11⟩
  have H11 := Lib.hid (And.intro (H10.out.2.1.below hb11) (H10.out.2.2.trans (hb11.mono H10.out.2.2.size)))
  clear hb11 q11
  go_wp2_with fail
  refine (count_bad w11 g7 k7 exB c7 0 257 H11.out.1 (by decide) (by decide)).mono ?_
  rintro e w12 ⟨rfl, hr12, ho12⟩
  have H12 := Lib.hid (And.intro hr12 (ho12.below H11.out.2 G7.out (by simp)))
  clear hr12 ho12
  go_wp2_with fail
  refine (err_any w12 g7 k7 exB c7 0 true H12.out.1).mono ?_
  rintro e w13 ⟨rfl, rfl⟩
  go_wp2_with fail
  go_ret
  exact ⟨rfl, H12.out.2, by have := H12.out.1.1.lt; omega⟩
theorem awake_any (w : World) : Calls Tryz.prog 6 #[] w fun e w' => e = .returned (.bool true) ∧ Below w.heap.size w w' := by
  refine (awake_more w).mono ?_
  rintro e w' ⟨he, hb, _⟩
  exact ⟨he, hb⟩
end Go.Proofs.YtjbjagdpemnhiaaGreat
