/-
  The chapter's examples hold.
-/
import Derived.Test.YtjngghihciimjaaVmc
import Derived.Test.YtjngghihciimjaaVx
import Derived.Test.YtjngghihciimjaaVs
namespace Go.Proofs.Ytjngghihciimjaa
set_option maxRecDepth 100000
open Go.RowKit Go.Sort Go.Maps

def AddM (vs : List Va) (ok : Bool) (coin : Int) (l : List As) : Prop := (ok = true ∧ AddZ vs coin l) ∨ (ok = false ∧ coin = 0 ∧ l = [] ∧ AddN vs)
def SubM (a b : Va) (ok : Bool) (coin : Int) (l : List As) : Prop := (ok = true ∧ SubZ a b coin l) ∨ (ok = false ∧ coin = 0 ∧ l = [] ∧ SubN a b)
def AddRes (vs : List Va) (e : Ending) (w' : World) : Prop := ∃ (ok : Bool) (coin : Int) (l : List As) (p : Option Addr) (c : Nat), e = .returned (.tuple #[.agg #[.int .i64 coin, .slice p l.length c], .bool ok]) ∧ Row w' p l ∧ AddM vs ok coin l
def SubRes (a b : Va) (e : Ending) (w' : World) : Prop := ∃ (ok : Bool) (coin : Int) (l : List As) (p : Option Addr) (c : Nat), e = .returned (.tuple #[.agg #[.int .i64 coin, .slice p l.length c], .bool ok]) ∧ Row w' p l ∧ SubM a b ok coin l
theorem add_m (w : World) (pa : Option Addr) (vs : List Va) (c : Nat) (h : RowV w pa vs) (hn : vs.length ≤ 1000) :
    Calls Try.prog 7 #[.slice pa vs.length c] w fun e w' => AddRes vs e w' ∧ Below w.heap.size w w' :=
  (add_any w pa vs c h hn).mono fun e w' hh => by
    rcases hh with ⟨⟨coin, l, hz, p, c', h1, h2⟩ | ⟨hN, p, c', h1, h2⟩, hb⟩
    · exact ⟨⟨true, coin, l, p, c', h1, h2, .inl ⟨rfl, hz⟩⟩, hb⟩
    · exact ⟨⟨false, 0, [], p, c', h1, h2, .inr ⟨rfl, rfl, rfl, hN⟩⟩, hb⟩
theorem sub_m (w : World) (a b : Va) (ha : VaOk w a) (hb : VaOk w b) :
    Calls Try.prog 10 #[.agg #[.int .i64 a.coin, .slice a.pa a.l.length a.c], .agg #[.int .i64 b.coin, .slice b.pa b.l.length b.c]] w fun e w' => SubRes a b e w' ∧ Below w.heap.size w w' :=
  (sub_any w a b ha hb).mono fun e w' hh => by
    rcases hh with ⟨⟨coin, l, hz, p, c', h1, h2⟩ | ⟨hN, p, c', h1, h2⟩, hb⟩
    · exact ⟨⟨true, coin, l, p, c', h1, h2, .inl ⟨rfl, hz⟩⟩, hb⟩
    · exact ⟨⟨false, 0, [], p, c', h1, h2, .inr ⟨rfl, rfl, rfl, hN⟩⟩, hb⟩
theorem AddM.yes {vs : List Va} {ok : Bool} {coin x : Int} {l m : List As} (h : AddM vs ok coin l) (hz : AddZ vs x m) : ok = true ∧ coin = x ∧ l = m := by
  rcases h with ⟨h1, h2⟩ | ⟨_, _, _, h4⟩
  · exact ⟨h1, h2.2.eq hz.2⟩
  · exact absurd hz (h4 x m)
theorem AddM.no {vs : List Va} {ok : Bool} {coin : Int} {l : List As} (h : AddM vs ok coin l) (hn : AddN vs) : ok = false ∧ coin = 0 ∧ l = [] := by
  rcases h with ⟨h1, h2⟩ | ⟨h1, h2, h3, _⟩
  · exact absurd h2 (hn _ _)
  · exact ⟨h1, h2, h3⟩
theorem SubM.yes {a b : Va} {ok : Bool} {coin x : Int} {l m : List As} (h : SubM a b ok coin l) (hz : SubZ a b x m) : ok = true ∧ coin = x ∧ l = m := by
  rcases h with ⟨h1, h2⟩ | ⟨_, _, _, h4⟩
  · exact ⟨h1, h2.2.eq hz.2⟩
  · exact absurd hz (h4 x m)
/-- A bundle of coins alone. -/
def coinV (x : Int) : Va := ⟨x, none, [], 0⟩
theorem coinV_ok (w : World) (x : Int) (h0 : -9223372036854775808 ≤ x) (h1 : x < 9223372036854775808) : VaOk w (coinV x) := ⟨h0, h1, row_nil w⟩
theorem tot_none {f : Nm → BitVec 128} (h : ∀ n, f n = 0) : IsTot f (ctT []) := ⟨List.Pairwise.nil, fun p hp => by simp [ctT] at hp, fun n hn => absurd (h n) hn⟩
theorem tog_none {x : BitVec 128} {f : Nm → BitVec 128} {c : Int} (h : ∀ n, f n = 0) (hx : fitsW x = true) (hc : c = x.toNat) : TogOk x f c [] := ⟨hx, hc, [], tot_none h, by decide, fun t ht => by simp at ht, rfl⟩
theorem far_no : AddN [coinV 5, coinV 9223372036854775807] := fun coin l hz => by
  have h1 := (addZ2.1 hz).2.1
  revert h1
  decide
theorem five_yes : AddZ [coinV 2, coinV 3] 5 [] := addZ2.2 ⟨⟨by decide, by decide⟩, tog_none (fun n => by simp [Fw, ctsOf, coinV, sumAt]) (by decide) (by decide)⟩
def exA : List As := [⟨(hash1 1, [120]), 4⟩]
theorem exA_right (p : Option Addr) (c : Nat) : rightV ⟨3, p, exA, c⟩ = true := by
  show rightB 3 exA = true
  kernel_rfl
theorem self_yes {a : Va} (h : rightV a = true) : SubZ a a 0 [] := subZ.2 ⟨⟨h, h⟩, tog_none (fun n => by rw [BitVec.sub_self]; rfl) (by rw [BitVec.sub_self]; decide) (by rw [BitVec.sub_self]; decide)⟩
theorem bal_yes (ok : Bool) (h : BalOk ([coinV 9223372036854775807, coinV 9223372036854775807] ++ [⟨0, none, [], 0⟩]) ([coinV 9223372036854775807, coinV 9223372036854775806] ++ [⟨1, none, [], 0⟩]) ok) : ok = true := by
  refine h.2 ⟨by decide, fun n => ?_⟩
  simp [ctsL, ctsOf, coinV, sumAt]
theorem lies_new2 (w : World) (cs : Array Value) (t : TypeId) (g : Nat) (hg : g = w.heap.size) : Lies (w.alloc (.cells cs t)) g cs t := by rw [hg]; exact Lies.new _ _ _
theorem pair_ok (w : World) (x y : Int) (hx : -9223372036854775808 ≤ x ∧ x < 9223372036854775808) (hy : -9223372036854775808 ≤ y ∧ y < 9223372036854775808) : ∀ v, v ∈ [coinV x, coinV y] → VaOk w v := fun v hv => by
  rcases List.mem_cons.1 hv with rfl | hv
  · exact coinV_ok w x hx.1 hx.2
  · rw [List.mem_singleton] at hv
    rw [hv]
    exact coinV_ok w y hy.1 hy.2
/-- The pair of bundles of coins in a new block. -/
theorem pair_row (w : World) (x y : Int) (hx : -9223372036854775808 ≤ x ∧ x < 9223372036854775808) (hy : -9223372036854775808 ≤ y ∧ y < 9223372036854775808) :
    RowV (w.alloc (.cells #[.int .i64 x, .slice none 0 0, .int .i64 y, .slice none 0 0] 24)) (some ⟨w.heap.size, 0, none⟩) [coinV x, coinV y] :=
  rowV_of (Lies.new w #[.int .i64 x, .slice none 0 0, .int .i64 y, .slice none 0 0] 24) rfl (pair_ok _ x y hx hy) (show 2 ≤ maxLen by decide)
theorem run_slice2 (w : World) (a b c d : Value) : (Instr.buildSlice 29 2 #[(0, .agg #[a, b]), (1, .agg #[c, d])]).run Try.prog w = .ok (.slice (some ⟨w.heap.size, 0, none⟩) 2 2) (w.alloc (.cells #[a, b, c, d] 24)) := by
  obtain ⟨i, z, h1, h2, h3, h4, h5⟩ := info_parts info24
  refine run_buildSlice w 29 24 2 _ _ i z Try.underlying29 h1 h2 (by rw [h3]; omega) (by rw [h3]; omega) ?_
  rw [h3]
  have h := Great.fill_whole (s := 2) (by decide) [Value.agg #[a, b], Value.agg #[c, d]] ((Array.range (2 * 2)).map (z.cells[· % z.cells.size]!)) (by simp [Value.cells]) (by simp)
  simpa [Value.cells] using h
theorem exA_row {w : World} {g : Nat} (h : Lies w g (asC ⟨(hash1 1, [120]), 4⟩) 54) : Row w (some ⟨g, 0, none⟩) exA := ⟨show 1 ≤ maxLen by decide, fun a ha => by
    unfold exA at ha
    rw [List.mem_singleton] at ha
    subst ha
    exact ⟨by decide, show 1 ≤ maxLen by decide, by decide, by decide⟩, fun _ => ⟨g, 0, rfl, h.lt, fun i a hi => by
    have h0 : i = 0 := by have := (List.getElem?_eq_some_iff.1 hi).1; simp [exA] at this; exact this
    subst h0
    simp [exA] at hi
    subst hi
    simpa using range_lies h⟩⟩
attribute [-go_sem] Instr.buildSlice
set_option maxHeartbeats 8000000 in
theorem awake_any (w : World) :
    Calls Try.prog 5 #[] w fun e w' => e = .returned (.bool true) ∧ Below w.heap.size w w' := by
  have hof : ∀ W x n c (p : Option Addr), Calls Try.prog 19 #[.int .i64 x, .slice p n c] W fun e w' => e = .returned (.agg #[.int .i64 x, .slice p n c]) ∧ Below W.heap.size W w' := fun W x n c p => ofV_any W x p n c
  obtain ⟨av, hav⟩ : ∃ v, v = asC ⟨(hash1 1, [120]), 4⟩ := ⟨_, rfl⟩
  have has : av.size = 34 := by rw [hav]; exact asC_size _ (by decide)
  have hasset : ∀ W, Calls Try.prog 20 #[.int .u8 1, .string ⟨#[120]⟩, .int .i64 4] W fun e w' => e = .returned (.agg av) ∧ Below W.heap.size W w' := fun W => by
    rw [hav]; exact asset_any W 1 [120] 4
  have hsl1 : ∀ W : World, (Instr.buildSlice 22 1 #[(0, .agg av)]).run Try.prog W = .ok (.slice (some ⟨W.heap.size, 0, none⟩) 1 1) (W.alloc (.cells av 54)) := fun W => run_slice1 W 22 54 34 56 av Try.underlying22 info54 (by decide) (by decide) has
  have hsl2 : ∀ (W : World) (x y : Int), (Instr.buildSlice 29 2 #[(0, .agg #[.int .i64 x, .slice none 0 0]), (1, .agg #[.int .i64 y, .slice none 0 0])]).run Try.prog W = .ok (.slice (some ⟨W.heap.size, 0, none⟩) 2 2) (W.alloc (.cells #[.int .i64 x, .slice none 0 0, .int .i64 y, .slice none 0 0] 24)) := fun W x y => run_slice2 W _ _ _ _
  have HOF := Lib.hid hof
  have HAS := Lib.hid (And.intro hasset hav)
  clear hof hasset has hav
  go_enter Try.func5, Try.ntmps5
  go_wp2_with fail
  refine (HOF.out _ _ _ _ _).mono ?_
  rintro e w1 ⟨rfl, hb1⟩
  have HB1 := Lib.hid hb1
  clear hb1
  go_wp2_with fail
  refine (HOF.out _ _ _ _ _).mono ?_
  rintro e w2 ⟨rfl, hb2⟩
  have hbw2 := HB1.out.trans (hb2.mono HB1.out.size)
  have hadd := add_m _ _ _ 2 (pair_row w2 5 9223372036854775807 (by decide) (by decide)) (by decide)
  have hb3 : Below w.heap.size w (w2.alloc (.cells #[.int .i64 5, .slice none 0 0, .int .i64 9223372036854775807, .slice none 0 0] 24)) := hbw2.alloc hbw2.size _
  have HB2 := Lib.hid (And.intro hb3 hadd)
  clear hb2 hbw2 hadd hb3 HB1
  go_wp2_with fail
  refine HB2.out.2.mono ?_
  rintro e w3 ⟨⟨ok1, coin1, l1, p1, c1, rfl, hr1, hm1⟩, hb3⟩
  obtain ⟨rfl, rfl, rfl⟩ := hm1.no far_no
  have hbw3 := HB2.out.1.trans (hb3.mono HB2.out.1.size)
  have HB3 := Lib.hid hbw3
  clear hb3 hbw3 hr1 hm1 HB2
  go_upto_region 2 with fail
  have hb4 : Below w.heap.size w (w3.alloc (.cells #[.int .i64 0, .slice p1 0 c1] 24)) := HB3.out.alloc HB3.out.size _
  generalize w3.alloc (.cells #[.int .i64 0, .slice p1 0 c1] 24) = w4 at hb4 ⊢
  have HB4 := Lib.hid hb4
  clear hb4 HB3
  go_wp2_with fail
  refine (HAS.out.1 _).mono ?_
  rintro e w5 ⟨rfl, hb5⟩
  have hbw5 := HB4.out.trans (hb5.mono HB4.out.size)
  have hb6 : Below w.heap.size w (w5.alloc (.cells av 54)) := hbw5.alloc hbw5.size _
  have hL6 : Lies (w5.alloc (.cells av 54)) w5.heap.size av 54 := Lies.new _ _ _
  have HB5 := Lib.hid (And.intro hb6 hL6)
  clear hb5 hbw5 hb6 hL6 HB4
  go_wp2_with fail
  refine (HOF.out _ _ _ _ _).mono ?_
  rintro e w7 ⟨rfl, hb7⟩
  have hL7 := HB5.out.2.below hb7 HB5.out.2.lt
  have hbw7 := HB5.out.1.trans (hb7.mono HB5.out.1.size)
  obtain ⟨gA, hgA⟩ : ∃ g, g = w5.heap.size := ⟨_, rfl⟩
  rw [← hgA] at hL7 ⊢
  have HB7 := Lib.hid (And.intro hbw7 hL7)
  clear hb7 hL7 hbw7 hgA HB5
  go_upto_region 3 with fail
  have hb8 : Below w.heap.size w (w7.alloc (.cells #[.int .i64 3, .slice (some ⟨gA, 0, none⟩) 1 1] 24)) := HB7.out.1.alloc HB7.out.1.size _
  have hL8 : Lies (w7.alloc (.cells #[.int .i64 3, .slice (some ⟨gA, 0, none⟩) 1 1] 24)) w7.heap.size #[.int .i64 3, .slice (some ⟨gA, 0, none⟩) 1 1] 24 := Lies.new _ _ _
  have hL8a := HB7.out.2.alloc (.cells #[.int .i64 3, .slice (some ⟨gA, 0, none⟩) 1 1] 24)
  generalize w7.alloc (.cells #[.int .i64 3, .slice (some ⟨gA, 0, none⟩) 1 1] 24) = w8 at hb8 hL8 hL8a ⊢
  have q0 := hL8.cell 0 (v := .int .i64 3) rfl
  have q1 := hL8.cell 1 (v := .slice (some ⟨gA, 0, none⟩) 1 1) rfl
  have hva : VaOk w8 ⟨3, some ⟨gA, 0, none⟩, exA, 1⟩ := ⟨show (-9223372036854775808 : Int) ≤ 3 by decide, show (3 : Int) < 9223372036854775808 by decide, exA_row (by rw [← HAS.out.2]; exact hL8a)⟩
  have hsub := sub_m w8 ⟨3, some ⟨gA, 0, none⟩, exA, 1⟩ ⟨3, some ⟨gA, 0, none⟩, exA, 1⟩ hva hva
  have HB8 := Lib.hid (And.intro hb8 hsub)
  clear hb8 hL8 hL8a hva hsub HB7
  go_wp2_with fail
  refine HB8.out.2.mono ?_
  rintro e w9 ⟨⟨ok2, coin2, l2, p2, c2, rfl, hr2, hm2⟩, hb9⟩
  obtain ⟨rfl, rfl, rfl⟩ := hm2.yes (self_yes (exA_right _ _))
  have hbw9 := HB8.out.1.trans (hb9.mono HB8.out.1.size)
  have HB9 := Lib.hid hbw9
  clear hb9 hbw9 hr2 hm2 HB8 q0 q1
  go_upto_region 4 with fail
  have hb10 : Below w.heap.size w (w9.alloc (.cells #[.int .i64 0, .slice p2 0 c2] 24)) := HB9.out.alloc HB9.out.size _
  have hL10 : Lies (w9.alloc (.cells #[.int .i64 0, .slice p2 0 c2] 24)) w9.heap.size #[.int .i64 0, .slice p2 0 c2] 24 := Lies.new _ _ _
  generalize w9.alloc (.cells #[.int .i64 0, .slice p2 0 c2] 24) = w10 at hb10 hL10 ⊢
  have HB10 := Lib.hid (And.intro hb10 hL10)
  clear hb10 hL10 HB9
  go_wp2_with fail
  refine (HOF.out _ _ _ _ _).mono ?_
  rintro e w11 ⟨rfl, hb11⟩
  have HB11 := Lib.hid hb11
  clear hb11
  go_wp2_with fail
  refine (HOF.out _ _ _ _ _).mono ?_
  rintro e w12 ⟨rfl, hb12⟩
  have hb1012 := HB11.out.trans (hb12.mono HB11.out.size)
  have hadd := add_m _ _ _ 2 (pair_row w12 2 3 (by decide) (by decide)) (by decide)
  have hb13 : Below w10.heap.size w10 (w12.alloc (.cells #[.int .i64 2, .slice none 0 0, .int .i64 3, .slice none 0 0] 24)) := hb1012.alloc hb1012.size _
  have HB12 := Lib.hid (And.intro hb13 hadd)
  clear hb12 hb1012 hadd hb13 HB11
  go_wp2_with fail
  refine HB12.out.2.mono ?_
  rintro e w14 ⟨⟨ok3, coin3, l3, p3, c3, rfl, hr3, hm3⟩, hb14⟩
  obtain ⟨rfl, rfl, rfl⟩ := hm3.yes five_yes
  have hb1014 := HB12.out.1.trans (hb14.mono HB12.out.1.size)
  have HB14 := Lib.hid hb1014
  clear hb14 hb1014 hr3 hm3 HB12
  go_upto_region 5 with fail
  have hb15 : Below w10.heap.size w10 (w14.alloc (.cells #[.int .i64 5, .slice p3 0 c3] 24)) := HB14.out.alloc HB14.out.size _
  have hL15 : Lies (w14.alloc (.cells #[.int .i64 5, .slice p3 0 c3] 24)) w14.heap.size #[.int .i64 5, .slice p3 0 c3] 24 := Lies.new _ _ _
  generalize w14.alloc (.cells #[.int .i64 5, .slice p3 0 c3] 24) = w15 at hb15 hL15 ⊢
  have hL10 := HB10.out.2.below hb15 HB10.out.2.lt
  have hbw15 := HB10.out.1.trans (hb15.mono HB10.out.1.size)
  have q0 := hL10.cell 0 (v := .int .i64 0) rfl
  have q1 := hL10.cell 1 (v := .slice p2 0 c2) rfl
  have hnil : ∀ (W : World) (p : Option Addr), Row W p [] := fun W p => ⟨Nat.zero_le _, fun a ha => by simp at ha, fun h => absurd h (by simp)⟩
  have hsame := sameV_any w15 0 0 p2 none [] [] c2 0 (hnil _ _) (hnil _ _)
  rw [show sameB 0 0 [] [] = true from by decide] at hsame
  have HB15 := Lib.hid (And.intro hbw15 (And.intro hL15 hsame))
  clear hb15 hL15 hL10 hbw15 hnil hsame HB14 HB10
  go_wp2_with fail
  refine HB15.out.2.2.mono ?_
  rintro e w16 ⟨rfl, hb16⟩
  have hL16 := HB15.out.2.1.below hb16 HB15.out.2.1.lt
  have hbw16 := HB15.out.1.trans (hb16.mono HB15.out.1.size)
  have q2 := hL16.cell 0 (v := .int .i64 5) rfl
  have HB16 := Lib.hid hbw16
  clear hb16 hL16 hbw16 HB15 q0 q1
  go_wp2_with fail
  refine (HOF.out _ _ _ _ _).mono ?_
  rintro e w17 ⟨rfl, hb17⟩
  have hbw17 := HB16.out.trans (hb17.mono HB16.out.size)
  have HB17 := Lib.hid hbw17
  clear hb17 hbw17 HB16 q2
  go_wp2_with fail
  refine (HOF.out _ _ _ _ _).mono ?_
  rintro e w18 ⟨rfl, hb18⟩
  have hbw18 := HB17.out.trans (hb18.mono HB17.out.size)
  have hrowI := pair_row w18 9223372036854775807 9223372036854775807 (by decide) (by decide)
  have hb19 : Below w.heap.size w (w18.alloc (.cells #[.int .i64 9223372036854775807, .slice none 0 0, .int .i64 9223372036854775807, .slice none 0 0] 24)) := hbw18.alloc hbw18.size _
  obtain ⟨gI, hgI⟩ : ∃ g, g = w18.heap.size := ⟨_, rfl⟩
  rw [← hgI] at hrowI
  have HB18 := Lib.hid (And.intro hb19 (And.intro hrowI hgI))
  clear hb18 hbw18 hb19 hrowI hgI HB17
  go_wp2_with fail
  refine (HOF.out _ _ _ _ _).mono ?_
  rintro e w20 ⟨rfl, hb20⟩
  have hbw20 := HB18.out.1.trans (hb20.mono HB18.out.1.size)
  have hrowI := HB18.out.2.1.below hb20 (Nat.le_refl _)
  rw [← HB18.out.2.2]
  have HB20 := Lib.hid (And.intro hbw20 hrowI)
  clear hb20 hbw20 hrowI HB18
  go_wp2_with fail
  refine (HOF.out _ _ _ _ _).mono ?_
  rintro e w21 ⟨rfl, hb21⟩
  have hbw21 := HB20.out.1.trans (hb21.mono HB20.out.1.size)
  have hrowI := HB20.out.2.below hb21 (Nat.le_refl _)
  have hrowO := pair_row w21 9223372036854775807 9223372036854775806 (by decide) (by decide)
  have hb22 : Below w21.heap.size w21 (w21.alloc (.cells #[.int .i64 9223372036854775807, .slice none 0 0, .int .i64 9223372036854775806, .slice none 0 0] 24)) := (Below.refl _ _).alloc (Nat.le_refl _) _
  have hbal := balance_any _ (some ⟨gI, 0, none⟩) [coinV 9223372036854775807, coinV 9223372036854775807] 2 none [] 0 (some ⟨w21.heap.size, 0, none⟩) [coinV 9223372036854775807, coinV 9223372036854775806] 2 1 (hrowI.below hb22 (Nat.le_refl _)) (row_nil _) hrowO (by decide) (by decide) (fun h => by cases h) (fun h => by cases h) (by decide) (by decide) (by decide) (by decide) (fun p hp => by simp [ctsL, ctsOf, coinV] at hp) (fun p hp => by simp [ctsL, ctsOf, coinV] at hp)
  have HB22 := Lib.hid (And.intro (hbw21.trans (hb22.mono hbw21.size)) hbal)
  clear hb21 hbw21 hrowI hrowO hb22 hbal HB20
  go_wp2_with fail
  refine HB22.out.2.mono ?_
  rintro e w23 ⟨⟨ok4, rfl, hok4⟩, hb23⟩
  obtain rfl := bal_yes ok4 hok4
  have HB23 := Lib.hid (HB22.out.1.trans (hb23.mono HB22.out.1.size))
  clear hb23 hok4 HB22
  go_wp2_with fail
  go_ret
  exact ⟨rfl, HB23.out⟩
end Go.Proofs.Ytjngghihciimjaa
