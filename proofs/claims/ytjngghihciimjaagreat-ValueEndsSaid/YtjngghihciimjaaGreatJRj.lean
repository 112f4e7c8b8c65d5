/-
  The document's own less: a right bundle with all turned below 0.
-/
import Derived.Test.YtjngghihciimjaaGreatJVmc
import Derived.Test.YtjngghihciimjaaGreatJRa
import Derived.Test.YtjngghihciimjaaGreatJVt
namespace Go.Proofs.YtjngghihciimjaaGreat
set_option maxRecDepth 100000
open Go.RowKit Go.Sort Go.Maps
def AddM (vs : List Va) (ok : Bool) (coin : Int) (l : List As) : Prop := (ok = true ∧ AddZ vs coin l) ∨ (ok = false ∧ coin = 0 ∧ l = [] ∧ AddN vs)
def SubM (a b : Va) (ok : Bool) (coin : Int) (l : List As) : Prop := (ok = true ∧ SubZ a b coin l) ∨ (ok = false ∧ coin = 0 ∧ l = [] ∧ SubN a b)
def AddRes (vs : List Va) (e : Ending) (w' : World) : Prop := ∃ (ok : Bool) (coin : Int) (l : List As) (p : Option Addr) (c : Nat), e = .returned (.tuple #[.agg #[.int .i64 coin, .slice p l.length c], .bool ok]) ∧ Row w' p l ∧ AddM vs ok coin l
def SubRes (a b : Va) (e : Ending) (w' : World) : Prop := ∃ (ok : Bool) (coin : Int) (l : List As) (p : Option Addr) (c : Nat), e = .returned (.tuple #[.agg #[.int .i64 coin, .slice p l.length c], .bool ok]) ∧ Row w' p l ∧ SubM a b ok coin l
theorem add_m (w : World) (pa : Option Addr) (vs : List Va) (c : Nat) (h : RowV w pa vs) (hn : vs.length ≤ 1000) :
  Calls Tryz.prog 24 #[.slice pa vs.length c] w fun e w' => AddRes vs e w' ∧ Below w.heap.size w w' :=
 (add_any w pa vs c h hn).mono fun e w' hh => by
  rcases hh with ⟨⟨coin, l, hz, p, c', h1, h2⟩ | ⟨hN, p, c', h1, h2⟩, hb⟩
  ·
   exact ⟨⟨true, coin, l, p, c', h1, h2.1, .inl ⟨rfl, hz⟩⟩, hb⟩
  ·
   exact ⟨⟨false, 0, [], p, c', h1, h2.1, .inr ⟨rfl, rfl, rfl, hN⟩⟩, hb⟩
theorem sub_m (w : World) (a b : Va) (ha : VaOk w a) (hb : VaOk w b) :
  Calls Tryz.prog 10 #[.agg #[.int .i64 a.coin, .slice a.pa a.l.length a.c], .agg #[.int .i64 b.coin, .slice b.pa b.l.length b.c]] w fun e w' => SubRes a b e w' ∧ Below w.heap.size w w' :=
 (sub_any w a b ha hb).mono fun e w' hh => by
  rcases hh with ⟨⟨coin, l, hz, p, c', h1, h2⟩ | ⟨hN, p, c', h1, h2⟩, hb⟩
  ·
   exact ⟨⟨true, coin, l, p, c', h1, h2.1, .inl ⟨rfl, hz⟩⟩, hb⟩
  ·
   exact ⟨⟨false, 0, [], p, c', h1, h2.1, .inr ⟨rfl, rfl, rfl, hN⟩⟩, hb⟩
theorem add_o (w : World) (pa : Option Addr) (vs : List Va) (c : Nat) (h : RowV w pa vs) (hn : vs.length ≤ 1000) :
  Calls Tryz.prog 24 #[.slice pa vs.length c] w fun e w' => (∃ (ok : Bool) (S : Va), e = .returned (.tuple #[.agg #[.int .i64 S.coin, .slice S.pa S.l.length S.c], .bool ok]) ∧ Mine w.heap.size w' S.pa S.l S.c ∧ AddM vs ok S.coin S.l) ∧ Below w.heap.size w w' :=
 (add_any w pa vs c h hn).mono fun e w' hh => by
  rcases hh with ⟨⟨coin, l, hz, p, c', h1, h2⟩ | ⟨hN, p, c', h1, h2⟩, hb⟩
  ·
   exact ⟨⟨true, ⟨coin, p, l, c'⟩, h1, h2, .inl ⟨rfl, hz⟩⟩, hb⟩
  ·
   exact ⟨⟨false, ⟨0, p, [], c'⟩, h1, h2, .inr ⟨rfl, rfl, rfl, hN⟩⟩, hb⟩
theorem sub_o (w : World) (a b : Va) (ha : VaOk w a) (hb : VaOk w b) :
  Calls Tryz.prog 10 #[.agg #[.int .i64 a.coin, .slice a.pa a.l.length a.c], .agg #[.int .i64 b.coin, .slice b.pa b.l.length b.c]] w fun e w' => (∃ (ok : Bool) (S : Va), e = .returned (.tuple #[.agg #[.int .i64 S.coin, .slice S.pa S.l.length S.c], .bool ok]) ∧ Mine w.heap.size w' S.pa S.l S.c ∧ SubM a b ok S.coin S.l) ∧ Below w.heap.size w w' :=
 (sub_any w a b ha hb).mono fun e w' hh => by
  rcases hh with ⟨⟨coin, l, hz, p, c', h1, h2⟩ | ⟨hN, p, c', h1, h2⟩, hb⟩
  ·
   exact ⟨⟨true, ⟨coin, p, l, c'⟩, h1, h2, .inl ⟨rfl, hz⟩⟩, hb⟩
  ·
   exact ⟨⟨false, ⟨0, p, [], c'⟩, h1, h2, .inr ⟨rfl, rfl, rfl, hN⟩⟩, hb⟩
theorem AddM.yes {vs : List Va} {ok : Bool} {coin x : Int} {l m : List As} (h : AddM vs ok coin l) (hz : AddZ vs x m) : ok = true ∧ coin = x ∧ l = m := by
 rcases h with ⟨h1, h2⟩ | ⟨_, _, _, h4⟩
 ·
  exact ⟨h1, h2.2.eq hz.2⟩
 ·
  exact absurd hz (h4 x m)
theorem AddM.no {vs : List Va} {ok : Bool} {coin : Int} {l : List As} (h : AddM vs ok coin l) (hn : AddN vs) : ok = false ∧ coin = 0 ∧ l = [] := by
 rcases h with ⟨h1, h2⟩ | ⟨h1, h2, h3, _⟩
 ·
  exact absurd h2 (hn _ _)
 ·
  exact ⟨h1, h2, h3⟩
theorem SubM.yes {a b : Va} {ok : Bool} {coin x : Int} {l m : List As} (h : SubM a b ok coin l) (hz : SubZ a b x m) : ok = true ∧ coin = x ∧ l = m := by
 rcases h with ⟨h1, h2⟩ | ⟨_, _, _, h4⟩
 ·
  exact ⟨h1, h2.2.eq hz.2⟩
 ·
  exact absurd hz (h4 x m)
def coinV (x : Int) : Va := ⟨x, none, [], 0⟩
theorem coinV_ok (w : World) (x : Int) (h0 : -9223372036854775808 ≤ x) (h1 : x < 9223372036854775808) : VaOk w (coinV x) := ⟨h0, h1, row_nil w⟩
theorem tot_none {f : Nm → BitVec 128} (h : ∀ n, f n = 0) : IsTot f (ctT []) := ⟨List.Pairwise.nil, fun p hp => by simp [ctT] at hp, fun n hn => absurd (h n) hn⟩
theorem tog_none {x : BitVec 128} {f : Nm → BitVec 128} {c : Int} (h : ∀ n, f n = 0) (hx : fitsW x = true) (hc : c = x.toNat) : TogOk x f c [] := ⟨hx, hc, [], tot_none h, by decide, fun t ht => by simp at ht, rfl⟩
theorem far_no : AddN [coinV 5, coinV 9223372036854775807] := fun coin l hz => by
 have h1 := (addZ2.1 hz).2.1
 revert h1
 decide
theorem five_yes : AddZ [coinV 2, coinV 3] 5 [] := addZ2.2 ⟨⟨by decide, by decide⟩, tog_none (fun n => by simp [Fw, ctsOf, coinV, sumAt]) (by decide) (by decide)⟩
def exA : List As := [⟨(hash1 1, [120]), 4⟩]
theorem exA_right (p : Option Addr) (c : Nat) : rightV ⟨3, p, exA, c⟩ = true := by
 show rightB 3 exA = true
 kernel_rfl
theorem self_yes {a : Va} (h : rightV a = true) : SubZ a a 0 [] := subZ.2 ⟨⟨h, h⟩, tog_none (fun n => by rw [BitVec.sub_self]; rfl) (by rw [BitVec.sub_self]; decide) (by rw [BitVec.sub_self]; decide)⟩
theorem bal_yes (ok : Bool) (h : BalOk ([coinV 9223372036854775807, coinV 9223372036854775807] ++ [⟨0, none, [], 0⟩]) ([coinV 9223372036854775807, coinV 9223372036854775806] ++ [⟨1, none, [], 0⟩]) ok) : ok = true := by
 refine h.2 ⟨by decide, fun n => ?_⟩
 simp [ctsL, ctsOf, coinV, sumAt]
theorem lies_new2 (w : World) (cs : Array Value) (t : TypeId) (g : Nat) (hg : g = w.heap.size) : Lies (w.alloc (.cells cs t)) g cs t := by rw [hg]; exact Lies.new _ _ _
theorem pair_ok (w : World) (x y : Int) (hx : -9223372036854775808 ≤ x ∧ x < 9223372036854775808) (hy : -9223372036854775808 ≤ y ∧ y < 9223372036854775808) : ∀ v, v ∈ [coinV x, coinV y] → VaOk w v := fun v hv => by
 rcases List.mem_cons.1 hv with rfl | hv
 ·
  exact coinV_ok w x hx.1 hx.2
 ·
  rw [List.mem_singleton] at hv
  rw [hv]
  exact coinV_ok w y hy.1 hy.2
theorem pair_row (w : World) (x y : Int) (hx : -9223372036854775808 ≤ x ∧ x < 9223372036854775808) (hy : -9223372036854775808 ≤ y ∧ y < 9223372036854775808) :
  RowV (w.alloc (.cells #[.int .i64 x, .slice none 0 0, .int .i64 y, .slice none 0 0] 24)) (some ⟨w.heap.size, 0, none⟩) [coinV x, coinV y] :=
 rowV_of (Lies.new w #[.int .i64 x, .slice none 0 0, .int .i64 y, .slice none 0 0] 24) rfl (pair_ok _ x y hx hy) (show 2 ≤ maxLen by decide)
theorem run_slice2 (w : World) (a b c d : Value) : (Instr.buildSlice 28 2 #[(0, .agg #[a, b]), (1, .agg #[c, d])]).run Tryz.prog w = .ok (.slice (some ⟨w.heap.size, 0, none⟩) 2 2) (w.alloc (.cells #[a, b, c, d] 24)) := by
 obtain ⟨i, z, h1, h2, h3, h4, h5⟩ := info_parts info24
 refine run_buildSlice w 28 24 2 _ _ i z Tryz.underlying28 h1 h2 (by rw [h3]; omega) (by rw [h3]; omega) ?_
 rw [h3]
 have h := Great.fill_whole (s := 2) (by decide) [Value.agg #[a, b], Value.agg #[c, d]] ((Array.range (2 * 2)).map (z.cells[· % z.cells.size]!)) (by simp [Value.cells]) (by simp)
 simpa [Value.cells] using h
theorem exA_row {w : World} {g : Nat} (h : Lies w g (asC ⟨(hash1 1, [120]), 4⟩) 38) : Row w (some ⟨g, 0, none⟩) exA := ⟨show 1 ≤ maxLen by decide, fun a ha => by
  unfold exA at ha
  rw [List.mem_singleton] at ha
  subst ha
  exact ⟨by decide, show 1 ≤ maxLen by decide, by decide, by decide⟩, fun _ => ⟨g, 0, rfl, h.lt, fun i a hi => by
  have h0 : i = 0 := by have := (List.getElem?_eq_some_iff.1 hi).1; simp [exA] at this; exact this
  subst h0
  simp [exA] at hi
  subst hi
  simpa using range_lies h⟩⟩
attribute [-go_sem] Instr.buildSlice
set_option maxHeartbeats 8000000 in
theorem awake_any (w : World) :
  Calls Tryz.prog 8 #[] w fun e w' => e = .returned (.bool true) ∧ Below w.heap.size w w' := by
 have hof : ∀ W x n c (p : Option Addr), Calls Tryz.prog 46 #[.int .i64 x, .slice p n c] W fun e w' => e = .returned (.agg #[.int .i64 x, .slice p n c]) ∧ Below W.heap.size W w' := fun W x n c p => ofV_any W x p n c
 obtain ⟨av, hav⟩ : ∃ v, v = asC ⟨(hash1 1, [120]), 4⟩ := ⟨_, rfl⟩
 have has : av.size = 34 := by rw [hav]; exact asC_size _ (by decide)
 have hasset : ∀ W, Calls Tryz.prog 47 #[.int .u8 1, .string ⟨#[120]⟩, .int .i64 4] W fun e w' => e = .returned (.agg av) ∧ Below W.heap.size W w' := fun W => by
  rw [hav]; exact asset_any W 1 [120] 4
 have hsl1 : ∀ W : World, (Instr.buildSlice 22 1 #[(0, .agg av)]).run Tryz.prog W = .ok (.slice (some ⟨W.heap.size, 0, none⟩) 1 1) (W.alloc (.cells av 38)) := fun W => run_slice1 W 22 38 34 56 av Tryz.underlying22 info54 (by decide) (by decide) has
 have hsl2 : ∀ (W : World) (x y : Int), (Instr.buildSlice 28 2 #[(0, .agg #[.int .i64 x, .slice none 0 0]), (1, .agg #[.int .i64 y, .slice none 0 0])]).run Tryz.prog W = .ok (.slice (some ⟨W.heap.size, 0, none⟩) 2 2) (W.alloc (.cells #[.int .i64 x, .slice none 0 0, .int .i64 y, .slice none 0 0] 24)) := fun W x y => run_slice2 W _ _ _ _
 have HOF := Lib.hid hof
 have HAS := Lib.hid (And.intro hasset hav)
 clear hof hasset has hav
 go_enter Tryz.func8, Tryz.ntmps8
 go_wp2_with fail
 refine (HOF.out _ _ _ _ _).mono ?_
 rintro e w1 ⟨rfl, hb1⟩
 have HB1 := Lib.hid hb1
 clear hb1
 go_wp2_with fail
 refine (HOF.out _ _ _ _ _).mono ?_
 rintro e w2 ⟨rfl, hb2⟩
 have hbw2 := HB1.out.trans (hb2.mono HB1.out.size)
 have hadd := add_m _ _ _ 2 (pair_row w2 5 9223372036854775807 (by decide) (by decide)) (by decide)
 have hb3 : Below w.heap.size w (w2.alloc (.cells #[.int .i64 5, .slice none 0 0, .int .i64 9223372036854775807, .slice none 0 0] 24)) := hbw2.alloc hbw2.size _
 have HB2 := Lib.hid (And.intro hb3 hadd)
 clear hb2 hbw2 hadd hb3 HB1
 go_wp2_with fail
 refine HB2.out.2.mono ?_
 rintro e w3 ⟨⟨ok1, coin1, l1, p1, c1, rfl, hr1, hm1⟩, hb3⟩
 obtain ⟨rfl, rfl, rfl⟩ := hm1.no far_no
 have hbw3 := HB2.out.1.trans (hb3.mono HB2.out.1.size)
 have HB3 := Lib.hid hbw3
 clear hb3 hbw3 hr1 hm1 HB2
 go_upto_region 2 with fail
 have hb4 : Below w.heap.size w (w3.alloc (.cells #[.int .i64 0, .slice p1 0 c1] 24)) := HB3.out.alloc HB3.out.size _
 generalize w3.alloc (.cells #[.int .i64 0, .slice p1 0 c1] 24) = w4 at hb4 ⊢
 have HB4 := Lib.hid hb4
 clear hb4 HB3
 go_wp2_with fail
 refine (HAS.out.1 _).mono ?_
 rintro e w5 ⟨rfl, hb5⟩
 have hbw5 := HB4.out.trans (hb5.mono HB4.out.size)
 have hb6 : Below w.heap.size w (w5.alloc (.cells av 38)) := hbw5.alloc hbw5.size _
 have hL6 : Lies (w5.alloc (.cells av 38)) w5.heap.size av 38 := Lies.new _ _ _
 have HB5 := Lib.hid (And.intro hb6 hL6)
 clear hb5 hbw5 hb6 hL6 HB4
 go_wp2_with fail
 refine (HOF.out _ _ _ _ _).mono ?_
 rintro e w7 ⟨rfl, hb7⟩
 have hL7 := HB5.out.2.below hb7 HB5.out.2.lt
 have hbw7 := HB5.out.1.trans (hb7.mono HB5.out.1.size)
 obtain ⟨gA, hgA⟩ : ∃ g, g = w5.heap.size := ⟨_, rfl⟩
 rw [← hgA] at hL7 ⊢
 have HB7 := Lib.hid (And.intro hbw7 hL7)
 clear hb7 hL7 hbw7 hgA HB5
 go_upto_region 3 with fail
 have hb8 : Below w.heap.size w (w7.alloc (.cells #[.int .i64 3, .slice (some ⟨gA, 0, none⟩) 1 1] 24)) := HB7.out.1.alloc HB7.out.1.size _
 have hL8 : Lies (w7.alloc (.cells #[.int .i64 3, .slice (some ⟨gA, 0, none⟩) 1 1] 24)) w7.heap.size #[.int .i64 3, .slice (some ⟨gA, 0, none⟩) 1 1] 24 := Lies.new _ _ _
 have hL8a := HB7.out.2.alloc (.cells #[.int .i64 3, .slice (some ⟨gA, 0, none⟩) 1 1] 24)
 generalize w7.alloc (.cells #[.int .i64 3, .slice (some ⟨gA, 0, none⟩) 1 1] 24) = w8 at hb8 hL8 hL8a ⊢
 have q0 := hL8.cell 0 (v := .int .i64 3) rfl
 have q1 := hL8.cell 1 (v := .slice (some ⟨gA, 0, none⟩) 1 1) rfl
 have hva : VaOk w8 ⟨3, some ⟨gA, 0, none⟩, exA, 1⟩ := ⟨show (-9223372036854775808 : Int) ≤ 3 by decide, show (3 : Int) < 9223372036854775808 by decide, exA_row (by rw [← HAS.out.2]; exact hL8a)⟩
 have hsub := sub_m w8 ⟨3, some ⟨gA, 0, none⟩, exA, 1⟩ ⟨3, some ⟨gA, 0, none⟩, exA, 1⟩ hva hva
 have HB8 := Lib.hid (And.intro hb8 hsub)
 clear hb8 hL8 hL8a hva hsub HB7
 go_wp2_with fail
 refine HB8.out.2.mono ?_
 rintro e w9 ⟨⟨ok2, coin2, l2, p2, c2, rfl, hr2, hm2⟩, hb9⟩
 obtain ⟨rfl, rfl, rfl⟩ := hm2.yes (self_yes (exA_right _ _))
 have hbw9 := HB8.out.1.trans (hb9.mono HB8.out.1.size)
 have HB9 := Lib.hid hbw9
 clear hb9 hbw9 hr2 hm2 HB8 q0 q1
 go_upto_region 4 with fail
 have hb10 : Below w.heap.size w (w9.alloc (.cells #[.int .i64 0, .slice p2 0 c2] 24)) := HB9.out.alloc HB9.out.size _
 have hL10 : Lies (w9.alloc (.cells #[.int .i64 0, .slice p2 0 c2] 24)) w9.heap.size #[.int .i64 0, .slice p2 0 c2] 24 := Lies.new _ _ _
 generalize w9.alloc (.cells #[.int .i64 0, .slice p2 0 c2] 24) = w10 at hb10 hL10 ⊢
 have HB10 := Lib.hid (And.intro hb10 hL10)
 clear hb10 hL10 HB9
 go_wp2_with fail
 refine (HOF.out _ _ _ _ _).mono ?_
 rintro e w11 ⟨rfl, hb11⟩
 have HB11 := Lib.hid hb11
 clear hb11
 go_wp2_with fail
 refine (HOF.out _ _ _ _ _).mono ?_
 rintro e w12 ⟨rfl, hb12⟩
 have hb1012 := HB11.out.trans (hb12.mono HB11.out.size)
 have hadd := add_m _ _ _ 2 (pair_row w12 2 3 (by decide) (by decide)) (by decide)
 have hb13 : Below w10.heap.size w10 (w12.alloc (.cells #[.int .i64 2, .slice none 0 0, .int .i64 3, .slice none 0 0] 24)) := hb1012.alloc hb1012.size _
 have HB12 := Lib.hid (And.intro hb13 hadd)
 clear hb12 hb1012 hadd hb13 HB11
 go_wp2_with fail
 refine HB12.out.2.mono ?_
 rintro e w14 ⟨⟨ok3, coin3, l3, p3, c3, rfl, hr3, hm3⟩, hb14⟩
 obtain ⟨rfl, rfl, rfl⟩ := hm3.yes five_yes
 have hb1014 := HB12.out.1.trans (hb14.mono HB12.out.1.size)
 have HB14 := Lib.hid hb1014
 clear hb14 hb1014 hr3 hm3 HB12
 go_upto_region 5 with fail
 have hb15 : Below w10.heap.size w10 (w14.alloc (.cells #[.int .i64 5, .slice p3 0 c3] 24)) := HB14.out.alloc HB14.out.size _
 have hL15 : Lies (w14.alloc (.cells #[.int .i64 5, .slice p3 0 c3] 24)) w14.heap.size #[.int .i64 5, .slice p3 0 c3] 24 := Lies.new _ _ _
 generalize w14.alloc (.cells #[.int .i64 5, .slice p3 0 c3] 24) = w15 at hb15 hL15 ⊢
 have hL10 := HB10.out.2.below hb15 HB10.out.2.lt
 have hbw15 := HB10.out.1.trans (hb15.mono HB10.out.1.size)
 have q0 := hL10.cell 0 (v := .int .i64 0) rfl
 have q1 := hL10.cell 1 (v := .slice p2 0 c2) rfl
 have hnil : ∀ (W : World) (p : Option Addr), Row W p [] := fun W p => ⟨Nat.zero_le _, fun a ha => by simp at ha, fun h => absurd h (by simp)⟩
 have hsame := sameV_any w15 0 0 p2 none [] [] c2 0 (hnil _ _) (hnil _ _)
 rw [show sameB 0 0 [] [] = true from by decide] at hsame
 have HB15 := Lib.hid (And.intro hbw15 (And.intro hL15 hsame))
 clear hb15 hL15 hL10 hbw15 hnil hsame HB14 HB10
 go_wp2_with fail
 refine HB15.out.2.2.mono ?_
 rintro e w16 ⟨rfl, hb16⟩
 have hL16 := HB15.out.2.1.below hb16 HB15.out.2.1.lt
 have hbw16 := HB15.out.1.trans (hb16.mono HB15.out.1.size)
 have q2 := hL16.cell 0 (v := .int .i64 5) rfl
 have HB16 := Lib.hid hbw16
 clear hb16 hL16 hbw16 HB15 q0 q1
 go_wp2_with fail
 refine (HOF.out _ _ _ _ _).mono ?_
 rintro e w17 ⟨rfl, hb17⟩
 have hbw17 := HB16.out.trans (hb17.mono HB16.out.size)
 have HB17 := Lib.hid hbw17
 clear hb17 hbw17 HB16 q2
 go_wp2_with fail
 refine (HOF.out _ _ _ _ _).mono ?_
 rintro e w18 ⟨rfl, hb18⟩
 have hbw18 := HB17.out.trans (hb18.mono HB17.out.size)
 have hrowI := pair_row w18 9223372036854775807 9223372036854775807 (by decide) (by decide)
 have hb19 : Below w.heap.size w (w18.alloc (.cells #[.int .i64 9223372036854775807, .slice none 0 0, .int .i64 9223372036854775807, .slice none 0 0] 24)) := hbw18.alloc hbw18.size _
 obtain ⟨gI, hgI⟩ : ∃ g, g = w18.heap.size := ⟨_, rfl⟩
 rw [← hgI] at hrowI
 have HB18 := Lib.hid (And.intro hb19 (And.intro hrowI hgI))
 clear hb18 hbw18 hb19 hrowI hgI HB17
 go_wp2_with fail
 refine (HOF.out _ _ _ _ _).mono ?_
 rintro e w20 ⟨rfl, hb20⟩
 have hbw20 := HB18.out.1.trans (hb20.mono HB18.out.1.size)
 have hrowI := HB18.out.2.1.below hb20 (Nat.le_refl _)
 rw [← HB18.out.2.2]
 have HB20 := Lib.hid (And.intro hbw20 hrowI)
 clear hb20 hbw20 hrowI HB18
 go_wp2_with fail
 refine (HOF.out _ _ _ _ _).mono ?_
 rintro e w21 ⟨rfl, hb21⟩
 have hbw21 := HB20.out.1.trans (hb21.mono HB20.out.1.size)
 have hrowI := HB20.out.2.below hb21 (Nat.le_refl _)
 have hrowO := pair_row w21 9223372036854775807 9223372036854775806 (by decide) (by decide)
 have hb22 : Below w21.heap.size w21 (w21.alloc (.cells #[.int .i64 9223372036854775807, .slice none 0 0, .int .i64 9223372036854775806, .slice none 0 0] 24)) := (Below.refl _ _).alloc (Nat.le_refl _) _
 have hbal := balance_any _ (some ⟨gI, 0, none⟩) [coinV 9223372036854775807, coinV 9223372036854775807] 2 none [] 0 (some ⟨w21.heap.size, 0, none⟩) [coinV 9223372036854775807, coinV 9223372036854775806] 2 1 (hrowI.below hb22 (Nat.le_refl _)) (row_nil _) hrowO (by decide) (by decide) (fun h => by cases h) (fun h => by cases h) (by decide) (by decide) (by decide) (by decide) (fun p hp => by simp [ctsL, ctsOf, coinV] at hp) (fun p hp => by simp [ctsL, ctsOf, coinV] at hp)
 have HB22 := Lib.hid (And.intro (hbw21.trans (hb22.mono hbw21.size)) hbal)
 clear hb21 hbw21 hrowI hrowO hb22 hbal HB20
 go_wp2_with fail
 refine HB22.out.2.mono ?_
 rintro e w23 ⟨⟨ok4, rfl, hok4⟩, hb23⟩
 obtain rfl := bal_yes ok4 hok4
 have HB23 := Lib.hid (HB22.out.1.trans (hb23.mono HB22.out.1.size))
 clear hb23 hok4 HB22
 go_wp2_with fail
 go_ret
 exact ⟨rfl, HB23.out⟩
end Go.Proofs.YtjngghihciimjaaGreat
namespace Go.Proofs.YtjngghihciimjaaGreat
set_option maxRecDepth 100000
open Go.RowKit Go.Sort Go.Maps
theorem bun_tog {x : BitVec 128} {f : Nm → BitVec 128} {tl : List To} (h : BunOk x tl) (ht : IsTot f (ctT tl)) : TogOk x f x.toNat (asT tl) := ⟨h.1, rfl, tl, ht, h.2.1, h.2.2, rfl⟩
theorem bun_no {x : BitVec 128} {f : Nm → BitVec 128} {tl : List To} (h : ¬ BunOk x tl) (ht : IsTot f (ctT tl)) : ∀ coin l, ¬ TogOk x f coin l := fun coin l hh => by
 obtain ⟨h1, _, tl2, h2, h3, h4, _⟩ := hh
 have e : tl2 = tl := ctT_inj (h2.eq ht)
 subst e
 exact h ⟨h1, h3, h4⟩
theorem row_setRow {w : World} {pa : Option Addr} {l : List As} (h : Row w pa l) (b : Nat) (cs' : Array Value) {cs : Array Value} {t : TypeId} (hl : Lies w b cs t) (hlt : cs.size ≤ 33) : Row (w.setRow b cs') pa l :=
 ⟨h.1, h.2.1, fun h0 => by
  obtain ⟨g, off, e, hg, hh⟩ := h.2.2 h0
  have hne : g ≠ b := fun e2 => by
   subst e2
   obtain ⟨a, ha⟩ : ∃ a, l[0]? = some a := ⟨l[0], List.getElem?_eq_getElem h0⟩
   have hc := hh 0 a ha 33 _ (by rw [Array.getElem?_toList]; exact asC_amt a (h.2.1 a (List.mem_of_getElem? ha)).1)
   rw [cell_of_row w g _ cs t (0, 0) hl, Array.getElem?_eq_none (by omega)] at hc
   cases hc
  exact ⟨g, off, e, by simpa using hg, fun i a hi j v hv => (grown_setRow w b cs').cell (hh i a hi j v hv) (fun e2 => hne (Option.some.inj e2))⟩⟩
attribute [-go_sem] Instr.build
set_option maxHeartbeats 8000000 in
theorem radd_any (w : World) (pa : Option Addr) (vs : List Va) (c : Nat) (h : RowV w pa vs) (hc : (ctsL vs).length ≤ 1000000) (hnm : ∀ p, p ∈ ctsL vs → p.1.1.length = 32 ∧ p.1.2.length ≤ maxLen) :
    Calls Tryz.prog 25 #[.slice pa vs.length c] w fun e w' => AddRes vs e w' ∧ Below w.heap.size w w' := by
  have hli : (vs.length : Int) ≤ 9223372036854775807 := by have := h.1; unfold maxLen at this; omega
  have hzb : ∀ W, (Instr.build 24 #[]).run Tryz.prog W = .ok (.agg #[.int .i64 0, .slice none 0 0]) W := fun W => run_build W 24 _ _ (by kernel_rfl)
  have hb0 : Below w.heap.size w (w.alloc (.cells #[.int .i64 0, .slice none 0 0] 24)) := (Below.refl _ _).alloc (Nat.le_refl _) _
  have hL : Lies (w.alloc (.cells #[.int .i64 0, .slice none 0 0] 24)) w.heap.size #[.int .i64 0, .slice none 0 0] 24 := Lies.new _ _ _
  have H := Lib.hid (And.intro h (And.intro hc hnm))
  have H0 := Lib.hid (And.intro hb0 hL)
  clear h hc hnm hb0 hL
  go_enter Tryz.func25, Tryz.ntmps25
  go_wp2_with fail
  go_loopw [4] (fun i W => ∃ k : Nat, k ≤ vs.length ∧ i = .int .i64 k ∧ (∀ v, v ∈ vs.take k → rightV v = true) ∧ Below w.heap.size w W ∧ Lies W w.heap.size #[.int .i64 0, .slice none 0 0] 24) (fun i _ => vs.length - (intOf i).toNat)
  case atStart => exact ⟨0, Nat.zero_le _, rfl, fun a ha => by simp at ha, H0.out⟩
  case round =>
    obtain ⟨k, hk, rfl, hall, hb, hL⟩ := hrel
    by_cases hlt : k < vs.length
    · have m1 : (k : Int) < (vs.length : Int) := by omega
      have m0 : (0 : Int) ≤ (k : Int) := by omega
      obtain ⟨g, off, rfl, hg, hh⟩ := H.out.1.2 (by omega)
      obtain ⟨v, hv⟩ : ∃ v, v = vs[k] := ⟨_, rfl⟩
      have hkv : vs[k]? = some v := by rw [hv, List.getElem?_eq_getElem hlt]
      have hvv := hh.below hb hg (Nat.le_refl _) k v hkv
      have c0 := hvv.1 0 (.int .i64 v.coin) rfl
      have c1 := hvv.1 1 (.slice v.pa v.l.length v.c) rfl
      rw [Nat.add_zero] at c0
      have hcall := rright_any wr v.coin v.pa v.l v.c hvv.2.2.2
      have hmem := List.mem_of_getElem? hkv
      have htk : vs.take (k + 1) = vs.take k ++ [v] := by rw [List.take_add_one, hkv]; rfl
      obtain ⟨f, hf⟩ : ∃ f, f = rightB v.coin v.l := ⟨_, rfl⟩
      rw [← hf] at hcall
      have HR := Lib.hid (And.intro hb (And.intro hL (And.intro hlt (And.intro hall (And.intro htk (And.intro hcall (And.intro hmem hf)))))))
      clear hb hL hlt hall htk hcall hmem hf hvv hkv hv hg hh hk
      go_wp2_with fail
      refine HR.out.2.2.2.2.2.1.mono ?_
      rintro e W3 ⟨rfl, hb3⟩
      have hb := HR.out.1.trans (hb3.mono HR.out.1.size)
      have hL := HR.out.2.1.below hb3 HR.out.2.1.lt
      have H3 := Lib.hid (And.intro hb hL)
      clear hb3 hb hL c0 c1
      cases f with
      | false =>
        have hno : AddN vs := fun coin l hz => by
          have h1 := List.all_eq_true.1 hz.1 v HR.out.2.2.2.2.2.2.1
          unfold rightV at h1
          rw [← HR.out.2.2.2.2.2.2.2] at h1
          cases h1
        have HN := Lib.hid hno
        clear hno
        go_wp2_with (refine wpList_store_row rfl 24 _ _ rfl w.heap.size #[.int .i64 0, .slice none 0 0] rfl rfl 24 #[.int .i64 0, .slice none 0 0] H3.out.2 info_value rfl (by simp [Value.oneCell']) ?_)
        refine bodyPost_ret (v := .tuple #[.agg #[.int .i64 0, .slice none 0 0], .bool false]) (results_row_tmp (p := 2) (u := 3) (ty := 24) (by kernel_rfl) _ _ w.heap.size 24 #[.int .i64 0, .slice none 0 0] (0, 0) _ rfl (H3.out.2.setRow _) Tryz.underlying24 rfl info_value) rfl ⟨⟨false, 0, [], none, 0, rfl, row_nil _, .inr ⟨rfl, rfl, rfl, HN.out⟩⟩, below_setRow H3.out.1 _ _ (Nat.le_refl _)⟩
      | true =>
        go_wp2_with fail
        have e1 : (k : Int) + 1 = ((k + 1 : Nat) : Int) := by omega
        rw [e1]
        refine ⟨⟨k + 1, HR.out.2.2.1, rfl, fun a ha => ?_, H3.out⟩, ?_⟩
        · rw [HR.out.2.2.2.2.1] at ha
          rcases List.mem_append.1 ha with ha | ha
          · exact HR.out.2.2.2.1 a ha
          · rw [List.mem_singleton] at ha
            rw [ha]; exact HR.out.2.2.2.2.2.2.2.symm
        · have h := HR.out.2.2.1
          show vs.length - (k + 1) < vs.length - k
          omega
    · have m1 : ¬ (k : Int) < (vs.length : Int) := by omega
      have e1 : k = vs.length := by omega
      rw [e1, List.take_length] at hall
      have hallr : vs.all rightV = true := List.all_eq_true.2 hall
      have hs := rsums_any wr pa vs c (H.out.1.below hb (Nat.le_refl _)) H.out.2.1 H.out.2.2
      have HE := Lib.hid (And.intro hallr (And.intro hb (And.intro hL hs)))
      clear hallr hb hL hs hall hk hlt e1
      go_wp2_with fail
      refine HE.out.2.2.2.mono ?_
      rintro e W3 ⟨⟨p, tl, c', rfl, hr, ht⟩, hb3⟩
      obtain ⟨x, hx⟩ : ∃ x, x = coinS vs := ⟨_, rfl⟩
      rw [← hx]
      have hb := HE.out.2.1.trans (hb3.mono HE.out.2.1.size)
      have hL := HE.out.2.2.1.below hb3 HE.out.2.2.1.lt
      have H3 := Lib.hid (And.intro hb (And.intro hL (And.intro hr (And.intro ht hx))))
      clear hb3 hb hL hr ht hx
      unfold wv
      go_upto_region 7 with fail
      have hb4 : Below W3.heap.size W3 (W3.alloc (.cells #[.int .i64 (hiS x), .int .u64 (loN x)] 48)) := (Below.refl _ _).alloc (Nat.le_refl _) _
      have hL5 : Lies (W3.alloc (.cells #[.int .i64 (hiS x), .int .u64 (loN x)] 48)) W3.heap.size #[.int .i64 (hiS x), .int .u64 (loN x)] 48 := Lies.new _ _ _
      generalize W3.alloc (.cells #[.int .i64 (hiS x), .int .u64 (loN x)] 48) = W4 at hb4 hL5 ⊢
      have hb := H3.out.1.trans (hb4.mono H3.out.1.size)
      have hL := H3.out.2.1.below hb4 H3.out.2.1.lt
      have hr := H3.out.2.2.1.below hb4 (Nat.le_refl _)
      have c0 := hL5.cell 0 (v := .int .i64 (hiS x)) rfl
      have c1 := hL5.cell 1 (v := .int .u64 (loN x)) rfl
      have hbn := rbundle_any W4 x p tl c' hr
      have H4 := Lib.hid (And.intro hb (And.intro hL hbn))
      clear hb4 hL5 hb hL hr hbn
      go_wp2_with fail
      refine H4.out.2.2.mono ?_
      rintro e W5 ⟨hres, hb5⟩
      have hb := H4.out.1.trans (hb5.mono H4.out.1.size)
      have hL := H4.out.2.1.below hb5 H4.out.2.1.lt
      rcases hres with ⟨hok, p2, c2, rfl, hrow⟩ | ⟨hno, rfl⟩
      · have htog := bun_tog hok H3.out.2.2.2.1
        obtain ⟨X, hX⟩ : ∃ z : Int, z = x.toNat := ⟨_, rfl⟩
        rw [← hX] at htog ⊢
        have hfar : Row (W5.setRow w.heap.size #[.int .i64 X, .slice p2 (asT tl).length c2]) p2 (asT tl) := row_setRow hrow _ _ hL (show 2 ≤ 33 by decide)
        have H5 := Lib.hid (And.intro hb (And.intro hL (And.intro hfar htog)))
        clear hb5 hb hL hrow hok htog hX hfar c0 c1
        go_wp2_with (refine wpList_store_row rfl 24 _ _ rfl w.heap.size #[.int .i64 X, .slice p2 (asT tl).length c2] rfl rfl 24 #[.int .i64 0, .slice none 0 0] H5.out.2.1 info_value rfl (by simp [Value.oneCell']) ?_)
        refine bodyPost_ret (v := .tuple #[.agg #[.int .i64 X, .slice p2 (asT tl).length c2], .bool true]) (results_row_tmp (p := 2) (u := 3) (ty := 24) (by kernel_rfl) _ _ w.heap.size 24 #[.int .i64 X, .slice p2 (asT tl).length c2] (0, 0) _ rfl (H5.out.2.1.setRow _) Tryz.underlying24 rfl info_value) rfl ⟨⟨true, X, asT tl, p2, c2, rfl, H5.out.2.2.1, .inl ⟨rfl, HE.out.1, by rw [← H3.out.2.2.2.2]; exact H5.out.2.2.2⟩⟩, below_setRow H5.out.1 _ _ (Nat.le_refl _)⟩
      · have hn2 : AddN vs := fun coin l hz => bun_no hno H3.out.2.2.2.1 coin l (by rw [H3.out.2.2.2.2]; exact hz.2)
        have H5 := Lib.hid (And.intro hb (And.intro hL hn2))
        clear hb5 hb hL hno hn2 c0 c1
        go_wp2_with (refine wpList_store_row rfl 24 _ _ rfl w.heap.size #[.int .i64 0, .slice none 0 0] rfl rfl 24 #[.int .i64 0, .slice none 0 0] H5.out.2.1 info_value rfl (by simp [Value.oneCell']) ?_)
        refine bodyPost_ret (v := .tuple #[.agg #[.int .i64 0, .slice none 0 0], .bool false]) (results_row_tmp (p := 2) (u := 3) (ty := 24) (by kernel_rfl) _ _ w.heap.size 24 #[.int .i64 0, .slice none 0 0] (0, 0) _ rfl (H5.out.2.1.setRow _) Tryz.underlying24 rfl info_value) rfl ⟨⟨false, 0, [], none, 0, rfl, row_nil _, .inr ⟨rfl, rfl, rfl, H5.out.2.2⟩⟩, below_setRow H5.out.1 _ _ (Nat.le_refl _)⟩
end Go.Proofs.YtjngghihciimjaaGreat
namespace Go.Proofs.YtjngghihciimjaaGreat
set_option maxRecDepth 100000
open Go.RowKit Go.Sort Go.Maps
theorem set_amt (p : List UInt8) (h : p.length = 32) (s u a : Value) : (B8 p ++ #[s, u]).setIfInBounds 33 a = B8 p ++ #[s, a] := by
 obtain ⟨a0, a1, a2, a3, a4, a5, a6, a7, a8, a9, a10, a11, a12, a13, a14, a15, a16, a17, a18, a19, a20, a21, a22, a23, a24, a25, a26, a27, a28, a29, a30, a31, rfl⟩ := list32 p h
 kernel_rfl
theorem asC_set (y : As) (h : y.nm.1.length = 32) (z : Int) : (asC y).setIfInBounds 33 (.int .i64 z) = asC ⟨y.nm, z⟩ := set_amt y.nm.1 h _ _ _
theorem own_slice {W : World} {B : Nat} {e : TypeId} {k n : Nat} {v : Value} {xs : List Value} (h : W.ownsRow B e k v n xs) : ∃ a m c, v = .slice a m c := by
 rcases h.2 with ⟨e, _⟩ | ⟨g, cap, cur, e, _⟩
 ·
  exact ⟨_, _, _, e⟩
 ·
  exact ⟨_, _, _, e⟩
theorem turn_take {l : List As} {k : Nat} {a : As} (h : l[k]? = some a) : turnL (l.take (k + 1)) = turnL (l.take k) ++ [⟨a.nm, -a.amt⟩] := by
 unfold turnL
 rw [List.take_add_one, h, List.map_append]
 rfl
structure LWay (w W : World) (v : Va) (X : Int) (s : Value) (l : List As) : Prop where
 below : Below w.heap.size w W
 box : Lies W w.heap.size #[.int .i64 v.coin, .slice v.pa v.l.length v.c] 24
 res : Lies W (w.heap.size + 1) #[.int .i64 0, .slice none 0 0] 24
 out : Lies W (w.heap.size + 2) #[.int .i64 X, s] 24
 own : OwnAs W (w.heap.size + 3) s l
theorem LWay.step {w W U : World} {v : Va} {X : Int} {s : Value} {l : List As} (h : LWay w W v X s l) (hb : Below W.heap.size W U) : LWay w U v X s l :=
 ⟨h.below.trans (hb.mono h.below.size), h.box.below hb h.box.lt, h.res.below hb h.res.lt, h.out.below hb h.out.lt, ownsRow_below h.own hb⟩
theorem LWay.lt {w W : World} {v : Va} {X : Int} {s : Value} {l : List As} (h : LWay w W v X s l) : w.heap.size + 3 ≤ W.heap.size := h.out.lt
theorem LWay.other {w W : World} {v : Va} {X : Int} {s : Value} {l : List As} (h : LWay w W v X s l) (b j : Nat) (u : Value) (hb : w.heap.size + 3 ≤ b) (hs : s.ownBlock ≠ some b) : LWay w (W.setCell ⟨b, j, none⟩ u) v X s l :=
 ⟨below_setCell h.below _ _ (by simp; omega), h.box.other _ _ (by simp; omega), h.res.other _ _ (by simp; omega), h.out.other _ _ (by simp; omega), h.own.kept (grown_setCell _ _ _) (.inr hs)⟩
theorem LWay.app {w W U : World} {v : Va} {X : Int} {s t : Value} {l : List As} {a : As} (h : LWay w W v X s l) (hown : U.ownsRow (w.heap.size + 3) 38 34 t (l.length + 1) (cellsF asC l ++ cellsF asC [a])) (hg : W.grownBy U s.ownBlock) : Lies U (w.heap.size + 2) #[.int .i64 X, s] 24 ∧ LWay w (U.setCell ⟨w.heap.size + 2, 1, none⟩ t) v X t (l ++ [a]) := by
 have h1 := lies_grown hg h.box (own_not h.own (by omega))
 have h2 := lies_grown hg h.res (own_not h.own (by omega))
 have h3 := lies_grown hg h.out (own_not h.own (by omega))
 have h4 := h.below.grown hg h.below.size (fun j hj => Nat.le_trans (by omega) (h.own.lt j hj).1)
 have h5 : OwnAs U (w.heap.size + 3) t (l ++ [a]) := by
  unfold OwnAs
  rw [cellsF_app, List.length_append]
  exact hown
 exact ⟨h3, below_setCell h4 _ _ (by simp), h1.other _ _ (by simp), h2.other _ _ (by simp), h3.set 1 _, h5.kept (grown_setCell _ _ _) (.inr (fun e => own_not h5 (by omega : w.heap.size + 2 < w.heap.size + 3) e.symm))⟩
def LessRes (v : Va) (e : Ending) (w' : World) : Prop := ∃ p c, e = .returned (.agg #[.int .i64 (-v.coin), .slice p (turnL v.l).length c]) ∧ Row w' p (turnL v.l)
attribute [-go_sem] Instr.build Instr.buildSlice
set_option maxHeartbeats 16000000 in
theorem rless_any (w : World) (v : Va) (hv : VaOk w v) (hr : rightV v = true) :
  Calls Tryz.prog 54 #[.agg #[.int .i64 v.coin, .slice v.pa v.l.length v.c]] w fun e w' => LessRes v e w' ∧ Below w.heap.size w w' := by
 obtain ⟨r1, r2, r3, _⟩ := (right_iff v.coin v.l).1 hr
 have hli : (v.l.length : Int) ≤ 9223372036854775807 := by omega
 obtain ⟨X, hX⟩ : ∃ z : Int, z = -v.coin := ⟨_, rfl⟩
 have hneg : wrap64 (-v.coin) = X := by
  have := hv.2.1
  rw [hX]
  unfold wrap64
  omega
 have hvb : ∀ W, (Instr.build 24 #[(0, .int .i64 X)]).run Tryz.prog W = .ok (.agg #[.int .i64 X, .slice none 0 0]) W := fun W => run_build W 24 _ _ (by kernel_rfl)
 have hL1 : Lies ((w.alloc (.cells #[.int .i64 v.coin, .slice v.pa v.l.length v.c] 24)).alloc (.cells #[.int .i64 0, .slice none 0 0] 24)) w.heap.size #[.int .i64 v.coin, .slice v.pa v.l.length v.c] 24 := (Lies.new _ _ _).alloc _
 have hL2 : Lies ((w.alloc (.cells #[.int .i64 v.coin, .slice v.pa v.l.length v.c] 24)).alloc (.cells #[.int .i64 0, .slice none 0 0] 24)) (w.heap.size + 1) #[.int .i64 0, .slice none 0 0] 24 := by
  have := Lies.new (w.alloc (.cells #[.int .i64 v.coin, .slice v.pa v.l.length v.c] 24)) #[.int .i64 0, .slice none 0 0] 24
  simpa using this
 have hb0 : Below w.heap.size w ((w.alloc (.cells #[.int .i64 v.coin, .slice v.pa v.l.length v.c] 24)).alloc (.cells #[.int .i64 0, .slice none 0 0] 24)) := ((Below.refl _ _).alloc (Nat.le_refl _) _).alloc (by simp) _
 have hsz : ((w.alloc (.cells #[.int .i64 v.coin, .slice v.pa v.l.length v.c] 24)).alloc (.cells #[.int .i64 0, .slice none 0 0] 24)).heap.size = w.heap.size + 2 := by simp
 obtain ⟨i0, z0, hi0, hz0, hz1, hz2, hz3⟩ := info_parts info54
 have HI := Lib.hid (And.intro hi0 (And.intro hz0 (And.intro hz1 (And.intro hz2 hz3))))
 have H := Lib.hid (And.intro hv (And.intro r2 (And.intro r3 hX)))
 clear hi0 hz0 hz1 hz2 hz3 hv r1 r2 r3 hr hX
 go_enter Tryz.func54, Tryz.ntmps54
 go_upto_region 1 with fail
 generalize (w.alloc (.cells #[.int .i64 v.coin, .slice v.pa v.l.length v.c] 24)).alloc (.cells #[.int .i64 0, .slice none 0 0] 24) = W0 at hL1 hL2 hb0 hsz ⊢
 have c0 := hL1.cell 0 (v := .int .i64 v.coin) rfl
 have HSZ := Lib.hid hsz
 have H0 := Lib.hid (And.intro hb0 (And.intro hL1 hL2))
 clear hL1 hL2 hb0 hsz
 go_upto_region 2 with fail
 have hbz : Below W0.heap.size W0 (W0.alloc (.cells #[.int .i64 X, .slice none 0 0] 24)) := (Below.refl _ _).alloc (Nat.le_refl _) _
 have hst : LWay w (W0.alloc (.cells #[.int .i64 X, .slice none 0 0] 24)) v X (.slice none 0 0) (turnL (v.l.take 0)) := ⟨H0.out.1.trans (hbz.mono H0.out.1.size), H0.out.2.1.below hbz H0.out.2.1.lt, H0.out.2.2.below hbz H0.out.2.2.lt, by rw [← HSZ.out]; exact Lies.new _ _ _, World.ownsRow_nil _ _ _ _⟩
 generalize W0.alloc (.cells #[.int .i64 X, .slice none 0 0] 24) = W1 at hst ⊢
 rw [HSZ.out]
 have HST := Lib.hid hst
 clear hst hbz c0 hvb hneg
 go_wp2_with fail
 go_loopw [4] (fun i W => ∃ (k : Nat) (s : Value), k ≤ v.l.length ∧ i = .int .i64 k ∧ LWay w W v X s (turnL (v.l.take k))) (fun i _ => v.l.length - (intOf i).toNat)
 case atStart => exact ⟨0, _, Nat.zero_le _, rfl, HST.out⟩
 case round =>
  obtain ⟨k, s, hk, rfl, hway⟩ := hrel
  have c1 := hway.box.cell 1 (v := .slice v.pa v.l.length v.c) rfl
  by_cases hlt : k < v.l.length
  ·
   have m1 : (k : Int) < (v.l.length : Int) := by omega
   have m0 : (0 : Int) ≤ (k : Int) := by omega
   obtain ⟨g, off, hpa, hg, hh⟩ := H.out.1.2.2.2.2 (by omega)
   rw [hpa] at c1
   obtain ⟨y, hy⟩ : ∃ y, y = v.l[k] := ⟨_, rfl⟩
   have hky : v.l[k]? = some y := by rw [hy, List.getElem?_eq_getElem hlt]
   have oky := H.out.1.2.2.2.1 y (List.mem_of_getElem? hky)
   have hamt := (H.out.2.2.1 y (List.mem_of_getElem? hky)).2
   have hrg := (hh.below hway.below hg) k y hky
   have hnx := turn_take hky
   obtain ⟨va, hva⟩ : ∃ v, v = asC y := ⟨_, rfl⟩
   have hvs : va.size = 34 := by rw [hva]; exact asC_size y oky.1
   have hv1 : va.all (·.oneCell') = true := by rw [hva]; exact asC_one y
   have h33 : va[33]? = some (.int .i64 y.amt) := by rw [hva]; exact asC_amt y oky.1
   have hset : va.setIfInBounds 33 (.int .i64 (-y.amt)) = asC ⟨y.nm, -y.amt⟩ := by rw [hva]; exact asC_set y oky.1 _
   rw [← hva] at hrg
   obtain ⟨Y, hY⟩ : ∃ z : Int, z = -y.amt := ⟨_, rfl⟩
   have hng : wrap64 (-y.amt) = Y := by
    have := oky.2.2.2
    rw [hY]
    unfold wrap64
    omega
   rw [← hY] at hset hnx
   obtain ⟨av, hav⟩ : ∃ a, a = asC ⟨y.nm, Y⟩ := ⟨_, rfl⟩
   rw [← hav] at hset
   have has : av.size = 34 := by rw [hav]; exact asC_size _ oky.1
   have hsl : ∀ W : World, (Instr.buildSlice 22 1 #[(0, .agg av)]).run Tryz.prog W = .ok (.slice (some ⟨W.heap.size, 0, none⟩) 1 1) (W.alloc (.cells av 38)) := fun W => run_slice1 W 22 38 34 56 av Tryz.underlying22 info54 (by decide) (by decide) has
   have HR := Lib.hid (And.intro hway (And.intro hlt (And.intro hrg (And.intro hnx (And.intro hvs (And.intro hv1 (And.intro h33 (And.intro hset (And.intro hav (And.intro has oky))))))))))
   have HSL := Lib.hid hsl
   clear hway hlt hrg hnx hvs hv1 h33 hset hav has oky hamt hky hy hva hh hg hpa hsl hk hY
   go_upto_region 6 with (first
    | (refine wpList_load_mid rfl 38 _ rfl g (off + k * 34) rfl va.toList _ HR.out.2.2.1 Tryz.underlying38 rfl (by rw [Array.length_toList, HR.out.2.2.2.2.1]; exact info_asset) ?_)
    | (refine wpList_store_row rfl 38 _ _ rfl wr.heap.size va rfl rfl 38 z34 (Lies.new wr z34 38) (by rw [HR.out.2.2.2.2.1]; exact info_asset) (by rw [HR.out.2.2.2.2.1]; kernel_rfl) HR.out.2.2.2.2.2.1 ?_))
   rw [World.setRow_alloc_new]
   have hba : Below wr.heap.size wr (wr.alloc (.cells va 38)) := (Below.refl _ _).alloc (Nat.le_refl _) _
   have hL5 : Lies (wr.alloc (.cells va 38)) wr.heap.size va 38 := Lies.new _ _ _
   have hw5 := HR.out.1.step hba
   have hfar := ownsRow_new HR.out.1.own
   have hge := HR.out.1.lt
   generalize wr.alloc (.cells va 38) = W5 at hba hL5 hw5 ⊢
   obtain ⟨b5, hb5⟩ : ∃ b, b = wr.heap.size := ⟨_, rfl⟩
   rw [← hb5] at hL5 hfar hge ⊢
   have c33 := hL5.cell 33 HR.out.2.2.2.2.2.2.1
   have f33 := hL5.free 33
   have H5 := Lib.hid (And.intro hL5 (And.intro hw5 (And.intro hfar hge)))
   clear hba hL5 hw5 hfar hge hb5 c1
   go_upto_region 7 with fail
   have hw6 := H5.out.2.1.other b5 33 (.int .i64 Y) H5.out.2.2.2 H5.out.2.2.1
   have hL6 : Lies (W5.setCell ⟨b5, 33, none⟩ (.int .i64 Y)) b5 av 38 := by rw [← HR.out.2.2.2.2.2.2.2.1]; exact H5.out.1.set 33 _
   clear c33 f33 hng
   generalize W5.setCell ⟨b5, 33, none⟩ (.int .i64 Y) = W6 at hw6 hL6 ⊢
   have c1 := hw6.out.cell 1 (v := s) rfl
   have hbz : Below W6.heap.size W6 (W6.alloc (.cells av 38)) := (Below.refl _ _).alloc (Nat.le_refl _) _
   have hwz := hw6.step hbz
   have hsrc := src_one asC (a := ⟨y.nm, Y⟩) (by rw [← HR.out.2.2.2.2.2.2.2.2.1]; exact Lies.new W6 av 38)
   have hlen : (turnL (v.l.take k)).length ≤ 30 := by
    have := H.out.2.1
    unfold turnL
    rw [List.length_map, List.length_take]
    omega
   have H6 := Lib.hid (And.intro hL6 (And.intro hwz (And.intro hsrc hlen)))
   have hsl := HSL.out
   obtain ⟨sa, sn, sc, hs⟩ := own_slice hwz.own
   subst hs
   clear hw6 hL6 hbz hwz hsrc hlen
   go_wp2_with (first
    | (refine wpList_load_mid rfl 38 _ rfl b5 0 rfl av.toList _ (range_lies H6.out.1) Tryz.underlying38 rfl (by rw [Array.length_toList, HR.out.2.2.2.2.2.2.2.2.2.1]; exact info_asset) ?_)
    | (at_builtin; go_must (refine wpList_append_own_at _ rfl _ _ 22 rfl (w.heap.size + 3) 38 i0 z0 34 56 Tryz.underlying22 HI.out.1 HI.out.2.1 HI.out.2.2.1 HI.out.2.2.2.1 HI.out.2.2.2.2 (by decide) _ (turnL (v.l.take k)).length _ rfl H6.out.2.1.own ⟨W6.heap.size, 0, none⟩ 1 1 (cellsF asC [⟨y.nm, Y⟩]) rfl (cellsF_len asC 34 _ fun a ha => by rw [List.mem_singleton] at ha; rw [ha]; exact asC_size _ HR.out.2.2.2.2.2.2.2.2.2.2.1) H6.out.2.2.1 (cellsF_one asC _ fun a _ => asC_one a) (by have := H6.out.2.2.2; unfold maxLen; omega) (by have := H6.out.2.2.2; omega) H6.out.2.1.lt ?_; intro v' w1 hown' hgrow _ hat; obtain ⟨ta, tn, tc, htt⟩ := own_slice hown'; subst htt; have hap := H6.out.2.1.app hown' hgrow; have d1 := hap.1.cell 1 (v := .slice sa sn sc) rfl; have f1 := hap.1.free 1; have HAP := Lib.hid hap.2; clear hap hown' hgrow hat)))
   have e1 : (k : Int) + 1 = ((k + 1 : Nat) : Int) := by omega
   rw [e1]
   refine ⟨⟨k + 1, _, HR.out.2.1, rfl, by rw [HR.out.2.2.2.1]; exact HAP.out⟩, ?_⟩
   have h := HR.out.2.1
   show v.l.length - (k + 1) < v.l.length - k
   omega
  ·
   have m1 : ¬ (k : Int) < (v.l.length : Int) := by omega
   have e1 : k = v.l.length := by omega
   rw [e1, List.take_length] at hway
   have hlen : (turnL v.l).length ≤ 30 := by
    have := H.out.2.1
    unfold turnL
    rw [List.length_map]
    exact this
   obtain ⟨p, c', rfl, hrow⟩ := OwnAs.row hway.own (fun a ha => by
    unfold turnL turnA at ha
    obtain ⟨b, hb, rfl⟩ := List.mem_map.1 ha
    have h1 := H.out.1.2.2.2.1 b hb
    have h2 := (H.out.2.2.1 b hb).2
    have h3 := h1.2.2.2
    exact ⟨h1.1, h1.2.1, show (-9223372036854775808 : Int) ≤ -b.amt by omega, show -b.amt < (9223372036854775808 : Int) by omega⟩) (Nat.le_trans hlen (by decide))
   have q0 := hway.out.cell 0 (v := .int .i64 X) rfl
   have q1 := hway.out.cell 1 (v := .slice p (turnL v.l).length c') rfl
   have hrow2 := row_setRow hrow (w.heap.size + 1) #[.int .i64 X, .slice p (turnL v.l).length c'] hway.res (show 2 ≤ 33 by decide)
   have HE := Lib.hid (And.intro hrow2 hway)
   clear hrow hrow2 hway hlen hk hlt e1
   go_wp2_with (refine wpList_store_row rfl 24 _ _ rfl (w.heap.size + 1) #[.int .i64 X, .slice p (turnL v.l).length c'] rfl rfl 24 #[.int .i64 0, .slice none 0 0] HE.out.2.res info_value rfl (by simp [Value.oneCell']) ?_)
   refine bodyPost_ret (v := .agg #[.int .i64 X, .slice p (turnL v.l).length c']) (results_cell_row (p := 2) (ty := 24) (by kernel_rfl) _ _ (w.heap.size + 1) 24 #[.int .i64 X, .slice p (turnL v.l).length c'] (0, 0) _ rfl (HE.out.2.res.setRow _) Tryz.underlying24 rfl info_value) rfl ⟨⟨p, c', by rw [H.out.2.2.2], HE.out.1⟩, below_setRow HE.out.2.below _ _ (Nat.le_succ _)⟩
end Go.Proofs.YtjngghihciimjaaGreat
