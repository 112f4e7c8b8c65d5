/-
  All lists that were found lie apart (25); a list more in the bag (24).
  Two rows of hashes lie apart (10).
-/
import Derived.Test.YtgempifedhiknaaGreatDoorApw
import Derived.Test.YtgempifedhiknaaGreatDoorApn
namespace Go.Proofs.YtgempifedhiknaaGreatDoor
open Go.RowKit Go.Shelf Sha

/-- The bag, of whose lists those of hashes alone are there. -/
def bagC (u : Value) : Array Value := #[.slice none 0 0, .slice none 0 0, .slice none 0 0, .slice none 0 0, .slice none 0 0, .slice none 0 0, .slice none 0 0, u, .slice none 0 0, .slice none 0 0, .slice none 0 0, .slice none 0 0, .slice none 0 0, .slice none 0 0, .slice none 0 0, .slice none 0 0, .slice none 0 0, .slice none 0 0, .slice none 0 0, .slice none 0 0, .slice none 0 0, .slice none 0 0, .slice none 0 0, .slice none 0 0, .slice none 0 0, .slice none 0 0, .slice none 0 0, .slice none 0 0, .slice none 0 0]
theorem bagC_set (u v : Value) : (bagC u).setIfInBounds 7 v = bagC v := rfl
theorem own_keptA {w w' : World} {base : Nat} {e : TypeId} {size n : Nat} {u : Value} {xs : List Value} {o : Option Nat} (h : w.ownsRow base e size u n xs) (hg : w.grownBy w' o) (hne : ∀ g, u.ownBlock = some g → o ≠ some g) :
    w'.ownsRow base e size u n xs := by
  refine ⟨h.1, ?_⟩
  rcases h.2 with hn | ⟨g, cap, cur, h1, h2, h3, h4⟩
  · exact .inl hn
  · exact .inr ⟨g, cap, cur, h1, h2, (hg.block g (Array.getElem?_eq_some_iff.1 h3).1 (fun e => hne g (by rw [h1]; rfl) e.symm)).trans h3, h4⟩
theorem info26r : (Tryz.prog.info? 26).map (fun i => (i.zero, i.size, i.bytes)) = some (some (.slice none 0 0), 1, 24) := by kernel_rfl
set_option maxRecDepth 100000 in
set_option maxHeartbeats 2000000 in
theorem put24 (w : World) (B base Bg : Nat) (vs : List Value) (u : Value) (la : Option Addr) (ln lc : Nat) (hB : B ≤ Bg) (hbb : B ≤ base) (hbs : Bg < base) (hlen : vs.length ≤ 10) (hbw : base ≤ w.heap.size) (hbg : Lies w Bg (bagC u) 86) (hr : w.ownsRow base 26 1 u vs.length vs) :
    Calls Tryz.prog 24 #[.pointer (some ⟨Bg, 0, none⟩), .slice la ln lc] w fun e w' => e = .returned (.tuple #[]) ∧ ∃ u', Lies w' Bg (bagC u') 86 ∧ w'.ownsRow base 26 1 u' (vs.length + 1) (vs ++ [.slice la ln lc]) ∧ Below B w w' ∧ base ≤ w'.heap.size := by
  obtain ⟨i0, hi0, hz0, hz1, hz2⟩ := info_parts info26r
  have c7 := hbg.cell 7 (v := u) rfl
  have hbga := hbg.alloc (.cells #[.slice la ln lc] 26)
  have hra := hr.alloc (.cells #[.slice la ln lc] 26)
  have HI := Lib.hid (And.intro hi0 (And.intro hz0 (And.intro hz1 hz2)))
  have HB := Lib.hid (And.intro hB (And.intro hbb (And.intro hbs (And.intro hlen hbw))))
  have HA := Lib.hid (And.intro hbga hra)
  clear hbg hr hbga hra hi0 hz0 hz1 hz2 hB hbb hbs hlen hbw
  go_enter Tryz.func24, Tryz.ntmps24
  go_wp2_with (first
    | (at_builtin; go_must (refine wpList_append_own _ rfl _ _ 33 rfl base 26 i0 (.slice none 0 0) 1 24 Tryz.underlying33 HI.out.1 HI.out.2.1 HI.out.2.2.1 HI.out.2.2.2 rfl (by decide) u vs.length vs rfl HA.out.2 ⟨w.heap.size, 0, none⟩ 1 1 [.slice la ln lc] rfl rfl (cell_one_new _ _ _) (by simp; rfl) (by have := HB.out.2.2.2.1; unfold maxLen; omega) (by have := HB.out.2.2.2.1; omega) (by have := HB.out.2.2.2.2; simp; omega) ?_)
       intro v' w7 hown hgrow hnil
       have hne : v'.ownBlock ≠ some Bg := fun e => by have := hown.lt Bg e; have := HB.out.2.2.1; omega
       have hl7 : Lies w7 Bg (bagC u) 86 := (hgrow.block Bg HA.out.1.lt (fun e => by have := (HA.out.2.lt Bg e.symm).1; have := HB.out.2.2.1; omega)).trans HA.out.1
       have hb7 : Below B w w7 := ((Below.refl _ _).alloc (Nat.le_trans HB.out.2.1 HB.out.2.2.2.2) _).grown hgrow (by have := HB.out.2.2.2.2; have := HB.out.2.1; simp; omega) (fun j e => by have := (HA.out.2.lt j e).1; have := HB.out.2.1; omega)
       have hs7 : base ≤ w7.heap.size := by have := hgrow.size; have := HB.out.2.2.2.2; simp at *; omega
       have hsh : ∃ g c, v' = .slice (some ⟨g, 0, none⟩) (vs.length + 1) c := by
         rcases hown.2 with ⟨_, h0⟩ | ⟨g, cap, cur, rfl, _⟩
         · omega
         · exact ⟨g, cap, rfl⟩
       obtain ⟨g, c, rfl⟩ := hsh
       have H7 := Lib.hid (And.intro hown (And.intro hl7 (And.intro hb7 (And.intro hs7 hne))))
       have c8 := hl7.cell 7 (v := u) rfl
       have f8 := hl7.free 7
       clear hown hgrow hnil hl7 hb7 hs7 hne))
  go_end0
  refine ⟨rfl, _, H7.out.2.1.set 7 _, ?_, H7.out.2.2.1.setCell (p := ⟨Bg, 7, none⟩) HB.out.1 _, by rw [size_set]; exact H7.out.2.2.2.1⟩
  exact own_keptA H7.out.1 (grownBy_set w7 Bg 7 _) (fun x hx e => H7.out.2.2.2.2 (by rw [hx, e]))
set_option maxRecDepth 100000 in
set_option maxHeartbeats 8000000 in
theorem apart25 (w : World) (Bg L cL B : Nat) (G C : Nat → Nat) (hbg : Lies w Bg (bagC (.slice (some ⟨L, 0, none⟩) 2 cL)) 86) (hne : ∀ k, k < 2 → G k ≠ Bg) (hs : Stt w L B G C) (hb : ∀ k, k < 2 → Blk w (G k) (C k)) :
    Calls Tryz.prog 25 #[.pointer (some ⟨Bg, 0, none⟩)] w fun e w' => e = .returned (.bool true) ∧ Below B w w' := by
  have hk : ∀ V, Below w.heap.size w V → Stt V L B G C ∧ (∀ k, k < 2 → Blk V (G k) (C k)) ∧ Below B w V ∧ Lies V Bg (bagC (.slice (some ⟨L, 0, none⟩) 2 cL)) 86 := fun V hV =>
    ⟨⟨Nat.lt_of_lt_of_le hs.lt hV.size, fun k hk => (hV.cell (p := ⟨L, k, none⟩) hs.lt).trans (hs.cell k hk), hs.cap, fun k hk => ⟨(hs.base k hk).1, Nat.lt_of_lt_of_le (hs.base k hk).2 hV.size⟩, hs.ne, hs.neL, Nat.le_trans hs.bb hV.size⟩,
      fun k hk => (hb k hk).below hV (hb k hk).lt, hV.mono hs.bb, hbg.below hV hbg.lt⟩
  have HK := Lib.hid hk
  have HN := Lib.hid hne
  have HBB := Lib.hid hs.bb
  have hb0 : Below w.heap.size w w := Below.refl _ _
  have HB0 := Lib.hid hb0
  have c0 := hbg.cell 0 (v := .slice none 0 0) rfl
  clear hbg hs hb hk hb0 hne
  go_enter Tryz.func25, Tryz.ntmps25
  go_wp2_with (first
    | (go_at_call 34; refine (flat34 _).mono ?_; rintro e w1 ⟨rfl, hb⟩
       have HB1 := Lib.hid (show Below w.heap.size w w1 from HB0.out.trans (hb.mono HB0.out.size))
       have c1 := (HK.out _ HB1.out).2.2.2.cell 1 (v := .slice none 0 0) rfl
       clear hb c0)
    | (go_at_call 35; refine (flat35 _).mono ?_; rintro e w2 ⟨rfl, hb⟩
       have HB2 := Lib.hid (show Below w.heap.size w w2 from HB1.out.trans (hb.mono HB1.out.size))
       have c2 := (HK.out _ HB2.out).2.2.2.cell 2 (v := .slice none 0 0) rfl
       clear hb c1)
    | (go_at_call 36; refine (flat36 _).mono ?_; rintro e w3 ⟨rfl, hb⟩
       have HB3 := Lib.hid (show Below w.heap.size w w3 from HB2.out.trans (hb.mono HB2.out.size))
       have c3 := (HK.out _ HB3.out).2.2.2.cell 3 (v := .slice none 0 0) rfl
       clear hb c2)
    | (go_at_call 37; refine (flat37 _).mono ?_; rintro e w4 ⟨rfl, hb⟩
       have HB4 := Lib.hid (show Below w.heap.size w w4 from HB3.out.trans (hb.mono HB3.out.size))
       have c4 := (HK.out _ HB4.out).2.2.2.cell 4 (v := .slice none 0 0) rfl
       clear hb c3)
    | (go_at_call 38; refine (flat38 _).mono ?_; rintro e w5 ⟨rfl, hb⟩
       have HB5 := Lib.hid (show Below w.heap.size w w5 from HB4.out.trans (hb.mono HB4.out.size))
       have c5 := (HK.out _ HB5.out).2.2.2.cell 5 (v := .slice none 0 0) rfl
       clear hb c4)
    | (go_at_call 39; refine (flat39 _).mono ?_; rintro e w6 ⟨rfl, hb⟩
       have HB6 := Lib.hid (show Below w.heap.size w w6 from HB5.out.trans (hb.mono HB5.out.size))
       have c6 := (HK.out _ HB6.out).2.2.2.cell 6 (v := .slice none 0 0) rfl
       clear hb c5)
    | (go_at_call 40; refine (flat40 _).mono ?_; rintro e w7 ⟨rfl, hb⟩
       have HB7 := Lib.hid (show Below w.heap.size w w7 from HB6.out.trans (hb.mono HB6.out.size))
       have c7 := (HK.out _ HB7.out).2.2.2.cell 7 (v := .slice (some ⟨L, 0, none⟩) 2 cL) rfl
       clear hb c6)
    | (go_at_call 41; refine (flat41 _ L cL B G C (HK.out _ HB7.out).1 (HK.out _ HB7.out).2.1).mono ?_; rintro e w8 ⟨rfl, hb, hrest⟩
       have hl8 : Lies w8 Bg (bagC (.slice (some ⟨L, 0, none⟩) 2 cL)) 86 := (hrest Bg (HK.out _ HB7.out).2.2.2.lt (fun e => HN.out 0 (by omega) e.symm) (fun e => HN.out 1 (by omega) e.symm)).trans (HK.out _ HB7.out).2.2.2
       have HB8 := Lib.hid (show Below B w w8 from (HK.out _ HB7.out).2.2.1.trans hb)
       have HL8 := Lib.hid hl8
       have c8 := hl8.cell 8 (v := .slice none 0 0) rfl
       clear hb hrest hl8 c7)
    | (go_at_call 42; refine (flat42 _).mono ?_; rintro e w9 ⟨rfl, hb⟩
       have HB9 := Lib.hid (show Below B w w9 from HB8.out.trans (hb.mono (Nat.le_trans HBB.out HB8.out.size)))
       have HL9 := Lib.hid (HL8.out.below hb HL8.out.lt)
       have c9 := HL9.out.cell 9 (v := .slice none 0 0) rfl
       clear hb c8)
    | (go_at_call 43; refine (flat43 _).mono ?_; rintro e w10 ⟨rfl, hb⟩
       have HB10 := Lib.hid (show Below B w w10 from HB9.out.trans (hb.mono (Nat.le_trans HBB.out HB9.out.size)))
       have HL10 := Lib.hid (HL9.out.below hb HL9.out.lt)
       have c10 := HL10.out.cell 10 (v := .slice none 0 0) rfl
       clear hb c9)
    | (go_at_call 44; refine (flat44 _).mono ?_; rintro e w11 ⟨rfl, hb⟩
       have HB11 := Lib.hid (show Below B w w11 from HB10.out.trans (hb.mono (Nat.le_trans HBB.out HB10.out.size)))
       have HL11 := Lib.hid (HL10.out.below hb HL10.out.lt)
       have c11 := HL11.out.cell 11 (v := .slice none 0 0) rfl
       clear hb c10)
    | (go_at_call 45; refine (flat45 _).mono ?_; rintro e w12 ⟨rfl, hb⟩
       have HB12 := Lib.hid (show Below B w w12 from HB11.out.trans (hb.mono (Nat.le_trans HBB.out HB11.out.size)))
       have HL12 := Lib.hid (HL11.out.below hb HL11.out.lt)
       have c12 := HL12.out.cell 12 (v := .slice none 0 0) rfl
       clear hb c11)
    | (go_at_call 46; refine (flat46 _).mono ?_; rintro e w13 ⟨rfl, hb⟩
       have HB13 := Lib.hid (show Below B w w13 from HB12.out.trans (hb.mono (Nat.le_trans HBB.out HB12.out.size)))
       have HL13 := Lib.hid (HL12.out.below hb HL12.out.lt)
       have c13 := HL13.out.cell 13 (v := .slice none 0 0) rfl
       clear hb c12)
    | (go_at_call 47; refine (flat47 _).mono ?_; rintro e w14 ⟨rfl, hb⟩
       have HB14 := Lib.hid (show Below B w w14 from HB13.out.trans (hb.mono (Nat.le_trans HBB.out HB13.out.size)))
       have HL14 := Lib.hid (HL13.out.below hb HL13.out.lt)
       have c14 := HL14.out.cell 14 (v := .slice none 0 0) rfl
       clear hb c13)
    | (go_at_call 48; refine (flat48 _).mono ?_; rintro e w15 ⟨rfl, hb⟩
       have HB15 := Lib.hid (show Below B w w15 from HB14.out.trans (hb.mono (Nat.le_trans HBB.out HB14.out.size)))
       have HL15 := Lib.hid (HL14.out.below hb HL14.out.lt)
       have c15 := HL15.out.cell 15 (v := .slice none 0 0) rfl
       clear hb c14)
    | (go_at_call 49; refine (flat49 _).mono ?_; rintro e w16 ⟨rfl, hb⟩
       have HB16 := Lib.hid (show Below B w w16 from HB15.out.trans (hb.mono (Nat.le_trans HBB.out HB15.out.size)))
       have HL16 := Lib.hid (HL15.out.below hb HL15.out.lt)
       have c16 := HL16.out.cell 16 (v := .slice none 0 0) rfl
       clear hb c15)
    | (go_at_call 50; refine (flat50 _).mono ?_; rintro e w17 ⟨rfl, hb⟩
       have HB17 := Lib.hid (show Below B w w17 from HB16.out.trans (hb.mono (Nat.le_trans HBB.out HB16.out.size)))
       have HL17 := Lib.hid (HL16.out.below hb HL16.out.lt)
       have c17 := HL17.out.cell 17 (v := .slice none 0 0) rfl
       clear hb c16)
    | (go_at_call 51; refine (flat51 _).mono ?_; rintro e w18 ⟨rfl, hb⟩
       have HB18 := Lib.hid (show Below B w w18 from HB17.out.trans (hb.mono (Nat.le_trans HBB.out HB17.out.size)))
       have HL18 := Lib.hid (HL17.out.below hb HL17.out.lt)
       have c18 := HL18.out.cell 18 (v := .slice none 0 0) rfl
       clear hb c17)
    | (go_at_call 52; refine (flat52 _).mono ?_; rintro e w19 ⟨rfl, hb⟩
       have HB19 := Lib.hid (show Below B w w19 from HB18.out.trans (hb.mono (Nat.le_trans HBB.out HB18.out.size)))
       have HL19 := Lib.hid (HL18.out.below hb HL18.out.lt)
       have c19 := HL19.out.cell 19 (v := .slice none 0 0) rfl
       clear hb c18)
    | (go_at_call 53; refine (flat53 _).mono ?_; rintro e w20 ⟨rfl, hb⟩
       have HB20 := Lib.hid (show Below B w w20 from HB19.out.trans (hb.mono (Nat.le_trans HBB.out HB19.out.size)))
       have HL20 := Lib.hid (HL19.out.below hb HL19.out.lt)
       have c20 := HL20.out.cell 20 (v := .slice none 0 0) rfl
       clear hb c19)
    | (go_at_call 54; refine (flat54 _).mono ?_; rintro e w21 ⟨rfl, hb⟩
       have HB21 := Lib.hid (show Below B w w21 from HB20.out.trans (hb.mono (Nat.le_trans HBB.out HB20.out.size)))
       have HL21 := Lib.hid (HL20.out.below hb HL20.out.lt)
       have c21 := HL21.out.cell 21 (v := .slice none 0 0) rfl
       clear hb c20)
    | (go_at_call 55; refine (flat55 _).mono ?_; rintro e w22 ⟨rfl, hb⟩
       have HB22 := Lib.hid (show Below B w w22 from HB21.out.trans (hb.mono (Nat.le_trans HBB.out HB21.out.size)))
       have HL22 := Lib.hid (HL21.out.below hb HL21.out.lt)
       have c22 := HL22.out.cell 22 (v := .slice none 0 0) rfl
       clear hb c21)
    | (go_at_call 56; refine (flat56 _).mono ?_; rintro e w23 ⟨rfl, hb⟩
       have HB23 := Lib.hid (show Below B w w23 from HB22.out.trans (hb.mono (Nat.le_trans HBB.out HB22.out.size)))
       have HL23 := Lib.hid (HL22.out.below hb HL22.out.lt)
       have c23 := HL23.out.cell 23 (v := .slice none 0 0) rfl
       clear hb c22)
    | (go_at_call 57; refine (flat57 _).mono ?_; rintro e w24 ⟨rfl, hb⟩
       have HB24 := Lib.hid (show Below B w w24 from HB23.out.trans (hb.mono (Nat.le_trans HBB.out HB23.out.size)))
       have HL24 := Lib.hid (HL23.out.below hb HL23.out.lt)
       have c24 := HL24.out.cell 24 (v := .slice none 0 0) rfl
       clear hb c23)
    | (go_at_call 58; refine (flat58 _).mono ?_; rintro e w25 ⟨rfl, hb⟩
       have HB25 := Lib.hid (show Below B w w25 from HB24.out.trans (hb.mono (Nat.le_trans HBB.out HB24.out.size)))
       have HL25 := Lib.hid (HL24.out.below hb HL24.out.lt)
       have c25 := HL25.out.cell 25 (v := .slice none 0 0) rfl
       clear hb c24)
    | (go_at_call 59; refine (flat59 _).mono ?_; rintro e w26 ⟨rfl, hb⟩
       have HB26 := Lib.hid (show Below B w w26 from HB25.out.trans (hb.mono (Nat.le_trans HBB.out HB25.out.size)))
       have HL26 := Lib.hid (HL25.out.below hb HL25.out.lt)
       have c26 := HL26.out.cell 26 (v := .slice none 0 0) rfl
       clear hb c25)
    | (go_at_call 60; refine (flat60 _).mono ?_; rintro e w27 ⟨rfl, hb⟩
       have HB27 := Lib.hid (show Below B w w27 from HB26.out.trans (hb.mono (Nat.le_trans HBB.out HB26.out.size)))
       have HL27 := Lib.hid (HL26.out.below hb HL26.out.lt)
       have c27 := HL27.out.cell 27 (v := .slice none 0 0) rfl
       clear hb c26)
    | (go_at_call 61; refine (flat61 _).mono ?_; rintro e w28 ⟨rfl, hb⟩
       have HB28 := Lib.hid (show Below B w w28 from HB27.out.trans (hb.mono (Nat.le_trans HBB.out HB27.out.size)))
       have HL28 := Lib.hid (HL27.out.below hb HL27.out.lt)
       have c28 := HL28.out.cell 28 (v := .slice none 0 0) rfl
       clear hb c27)
    | (go_at_call 62; refine (flat62 _).mono ?_; rintro e w29 ⟨rfl, hb⟩
       have HB29 := Lib.hid (show Below B w w29 from HB28.out.trans (hb.mono (Nat.le_trans HBB.out HB28.out.size)))
       clear hb c28))
  go_ret
  exact ⟨rfl, HB29.out⟩
end Go.Proofs.YtgempifedhiknaaGreatDoor
namespace Go.Proofs.YtgempifedhiknaaGreatDoor
set_option maxRecDepth 100000
open Go.RowKit Go.Shelf Sha

/-- The first k rows. -/
def rowsK (G C : Nat → Nat) (k : Nat) : List Value := (List.range k).map fun i => .slice (some ⟨G i, 0, none⟩) 35 (C i)
theorem rowsK_succ (G C : Nat → Nat) (k : Nat) : rowsK G C (k + 1) = rowsK G C k ++ [.slice (some ⟨G k, 0, none⟩) 35 (C k)] := by simp [rowsK, List.range_succ]
theorem rowsK_length (G C : Nat → Nat) (k : Nat) : (rowsK G C k).length = k := by simp [rowsK]
set_option maxRecDepth 100000 in
set_option maxHeartbeats 2000000 in
theorem apart10 (w : World) (g0 B : Nat) (G C : Nat → Nat) (hg0 : g0 < w.heap.size) (hc : ∀ k, k < 2 → w.cell? ⟨g0, k, none⟩ = some (.slice (some ⟨G k, 0, none⟩) 35 (C k)))
    (hb : ∀ k, k < 2 → Blk w (G k) (C k) ∧ 35 ≤ C k ∧ C k ≤ maxLen ∧ B ≤ G k) (hne : G 0 ≠ G 1) (hB : B ≤ w.heap.size) :
    Calls Tryz.prog 10 #[.slice (some ⟨g0, 0, none⟩) 2 2] w fun e w' => e = .returned (.bool true) ∧ Below B w w' := by
  have HF := Lib.hid (And.intro hb (And.intro hne hB))
  have HC := Lib.hid (And.intro hg0 hc)
  clear hb hne hB hg0 hc
  go_enter Tryz.func10, Tryz.ntmps10
  go_upto_region 2 with fail
  generalize hW0 : w.alloc (.cells #[.slice none 0 0, .slice none 0 0, .slice none 0 0, .slice none 0 0, .slice none 0 0, .slice none 0 0, .slice none 0 0, .slice none 0 0, .slice none 0 0, .slice none 0 0, .slice none 0 0, .slice none 0 0, .slice none 0 0, .slice none 0 0, .slice none 0 0, .slice none 0 0, .slice none 0 0, .slice none 0 0, .slice none 0 0, .slice none 0 0, .slice none 0 0, .slice none 0 0, .slice none 0 0, .slice none 0 0, .slice none 0 0, .slice none 0 0, .slice none 0 0, .slice none 0 0, .slice none 0 0] 86) = W0
  have hbg0 : Lies W0 w.heap.size (bagC (.slice none 0 0)) 86 := by rw [← hW0]; exact Lies.new _ _ _
  have hw0 : Below w.heap.size w W0 := by rw [← hW0]; exact (Below.refl _ _).alloc (Nat.le_refl _) _
  have hsz : w.heap.size + 1 ≤ W0.heap.size := by rw [← hW0]; simp
  have HW := Lib.hid (And.intro hbg0 (And.intro hw0 hsz))
  clear hW0 hbg0 hw0 hsz
  go_wp2_with fail
  go_loopw [4] (fun i W => ∃ k : Nat, k ≤ 2 ∧ i = .int .i64 k ∧ ∃ u, Lies W w.heap.size (bagC u) 86 ∧ W.ownsRow (w.heap.size + 1) 26 1 u k (rowsK G C k) ∧ Below w.heap.size w W ∧ w.heap.size + 1 ≤ W.heap.size) (fun i _ => 2 - (intOf i).toNat)
  case atStart => exact ⟨0, by omega, rfl, _, HW.out.1, World.ownsRow_nil _ _ _ _, HW.out.2.1, HW.out.2.2⟩
  case round =>
    obtain ⟨k, hk, rfl, u, hl, hr, hbw, hsz⟩ := hrel
    by_cases hlt : k < 2
    · have m1 : (k : Int) < 2 := by omega
      have m0 : (0 : Int) ≤ (k : Int) := by omega
      have c1 := (hbw.cell (p := ⟨g0, k, none⟩) HC.out.1).trans (HC.out.2 k hlt)
      have hput := put24 wr w.heap.size (w.heap.size + 1) w.heap.size (rowsK G C k) u (some ⟨G k, 0, none⟩) 35 (C k) (Nat.le_refl _) (by omega) (by omega) (by rw [rowsK_length]; omega) hsz hl (by rw [rowsK_length]; exact hr)
      have HP := Lib.hid hput
      have HR := Lib.hid (And.intro hbw hlt)
      clear hput hl hr hbw hsz hlt hk
      go_wp2_with (go_at_call 24; refine HP.out.mono ?_; rintro e w5 ⟨rfl, u', hl5, hr5, hb5, hs5⟩)
      rw [rowsK_length, ← rowsK_succ] at hr5
      have H5 := Lib.hid (And.intro hl5 (And.intro hr5 (And.intro (HR.out.1.trans hb5) hs5)))
      clear hl5 hr5 hb5 hs5
      go_wp2_with fail
      refine ⟨⟨k + 1, by have := HR.out.2; omega, by go_num, u', H5.out⟩, ?_⟩
      have := HR.out.2
      simp [intOf]; omega
    · obtain rfl : k = 2 := by omega
      have m1 : decide (((2 : Nat) : Int) < 2) = false := by decide
      have hcells := fun g (e : u.ownBlock = some g) => hr.cells (g := g) e
      rcases hr.2 with ⟨_, h0⟩ | ⟨L, cL, cur, rfl, hLb, hLl, _⟩
      · cases h0
      have hL := hcells L rfl
      have hst : Stt wr L B G C := by
        refine ⟨(Array.getElem?_eq_some_iff.1 hLl).1, fun k hk => ?_, fun k hk => ⟨(HF.out.1 k hk).2.1, (HF.out.1 k hk).2.2.1⟩, fun k hk => ⟨(HF.out.1 k hk).2.2.2, Nat.lt_of_lt_of_le (HF.out.1 k hk).1.lt hbw.size⟩, HF.out.2.1, fun k hk => by have := (HF.out.1 k hk).1.lt; omega, Nat.le_trans HF.out.2.2 hbw.size⟩
        have := hL k (.slice (some ⟨G k, 0, none⟩) 35 (C k)) (by
          have : k = 0 ∨ k = 1 := by omega
          rcases this with rfl | rfl <;> rfl)
        rwa [Addr.add_mid, Nat.zero_add] at this
      have hap := apart25 wr w.heap.size L cL B G C hl (fun k hk => by have := (HF.out.1 k hk).1.lt; omega) hst (fun k hk => (HF.out.1 k hk).1.below hbw (HF.out.1 k hk).1.lt)
      have HA := Lib.hid (And.intro hap hbw)
      clear hap hst hL hcells hl hr hbw hsz hlt hk hLb hLl
      go_wp2_with (go_at_call 25; refine HA.out.1.mono ?_; rintro e w6 ⟨rfl, hb6⟩)
      go_ret
      exact ⟨rfl, (HA.out.2.mono HF.out.2.2).trans hb6⟩
end Go.Proofs.YtgempifedhiknaaGreatDoor
