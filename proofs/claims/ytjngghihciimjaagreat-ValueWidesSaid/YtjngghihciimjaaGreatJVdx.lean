/-
  The chapter's examples hold.
  What the laws of bundles rest on: rows in new blocks; calls by their bundles.
  Bundles, assets, hashes as they come in.
  Rows of bundles, and of assets, as they come in, with their room.
-/
import Derived.Test.YtjngghihciimjaaGreatJVx
import Derived.Test.YtjngghihciimjaaGreatJVp
import Derived.WalkKit
import Derived.ProofKit
import Derived.OpenShut
import Derived.Carry
import Derived.SizedLaws
import Derived.Deep.Slices
import Derived.ChangeSlices
namespace Go.Proofs.YtjngghihciimjaaGreat
set_option maxRecDepth 100000
open Go.RowKit Go.Sort Go.Maps

def AddM (vs : List Va) (ok : Bool) (coin : Int) (l : List As) : Prop := (ok = true ∧ AddZ vs coin l) ∨ (ok = false ∧ coin = 0 ∧ l = [] ∧ AddN vs)
def SubM (a b : Va) (ok : Bool) (coin : Int) (l : List As) : Prop := (ok = true ∧ SubZ a b coin l) ∨ (ok = false ∧ coin = 0 ∧ l = [] ∧ SubN a b)
def AddRes (vs : List Va) (e : Ending) (w' : World) : Prop := ∃ (ok : Bool) (coin : Int) (l : List As) (p : Option Addr) (c : Nat), e = .returned (.tuple #[.agg #[.int .i64 coin, .slice p l.length c], .bool ok]) ∧ Row w' p l ∧ AddM vs ok coin l
def SubRes (a b : Va) (e : Ending) (w' : World) : Prop := ∃ (ok : Bool) (coin : Int) (l : List As) (p : Option Addr) (c : Nat), e = .returned (.tuple #[.agg #[.int .i64 coin, .slice p l.length c], .bool ok]) ∧ Row w' p l ∧ SubM a b ok coin l
theorem add_m (w : World) (pa : Option Addr) (vs : List Va) (c : Nat) (h : RowV w pa vs) (hn : vs.length ≤ 1000) :
    Calls Tryz.prog 24 #[.slice pa vs.length c] w fun e w' => AddRes vs e w' ∧ Below w.heap.size w w' :=
  (add_any w pa vs c h hn).mono fun e w' hh => by
    rcases hh with ⟨⟨coin, l, hz, p, c', h1, h2⟩ | ⟨hN, p, c', h1, h2⟩, hb⟩
    · exact ⟨⟨true, coin, l, p, c', h1, h2.1, .inl ⟨rfl, hz⟩⟩, hb⟩
    · exact ⟨⟨false, 0, [], p, c', h1, h2.1, .inr ⟨rfl, rfl, rfl, hN⟩⟩, hb⟩
theorem sub_m (w : World) (a b : Va) (ha : VaOk w a) (hb : VaOk w b) :
    Calls Tryz.prog 10 #[.agg #[.int .i64 a.coin, .slice a.pa a.l.length a.c], .agg #[.int .i64 b.coin, .slice b.pa b.l.length b.c]] w fun e w' => SubRes a b e w' ∧ Below w.heap.size w w' :=
  (sub_any w a b ha hb).mono fun e w' hh => by
    rcases hh with ⟨⟨coin, l, hz, p, c', h1, h2⟩ | ⟨hN, p, c', h1, h2⟩, hb⟩
    · exact ⟨⟨true, coin, l, p, c', h1, h2.1, .inl ⟨rfl, hz⟩⟩, hb⟩
    · exact ⟨⟨false, 0, [], p, c', h1, h2.1, .inr ⟨rfl, rfl, rfl, hN⟩⟩, hb⟩
/-- The same, the row told being the call's own. -/
theorem add_o (w : World) (pa : Option Addr) (vs : List Va) (c : Nat) (h : RowV w pa vs) (hn : vs.length ≤ 1000) :
    Calls Tryz.prog 24 #[.slice pa vs.length c] w fun e w' => (∃ (ok : Bool) (S : Va), e = .returned (.tuple #[.agg #[.int .i64 S.coin, .slice S.pa S.l.length S.c], .bool ok]) ∧ Mine w.heap.size w' S.pa S.l S.c ∧ AddM vs ok S.coin S.l) ∧ Below w.heap.size w w' :=
  (add_any w pa vs c h hn).mono fun e w' hh => by
    rcases hh with ⟨⟨coin, l, hz, p, c', h1, h2⟩ | ⟨hN, p, c', h1, h2⟩, hb⟩
    · exact ⟨⟨true, ⟨coin, p, l, c'⟩, h1, h2, .inl ⟨rfl, hz⟩⟩, hb⟩
    · exact ⟨⟨false, ⟨0, p, [], c'⟩, h1, h2, .inr ⟨rfl, rfl, rfl, hN⟩⟩, hb⟩
theorem sub_o (w : World) (a b : Va) (ha : VaOk w a) (hb : VaOk w b) :
    Calls Tryz.prog 10 #[.agg #[.int .i64 a.coin, .slice a.pa a.l.length a.c], .agg #[.int .i64 b.coin, .slice b.pa b.l.length b.c]] w fun e w' => (∃ (ok : Bool) (S : Va), e = .returned (.tuple #[.agg #[.int .i64 S.coin, .slice S.pa S.l.length S.c], .bool ok]) ∧ Mine w.heap.size w' S.pa S.l S.c ∧ SubM a b ok S.coin S.l) ∧ Below w.heap.size w w' :=
  (sub_any w a b ha hb).mono fun e w' hh => by
    rcases hh with ⟨⟨coin, l, hz, p, c', h1, h2⟩ | ⟨hN, p, c', h1, h2⟩, hb⟩
    · exact ⟨⟨true, ⟨coin, p, l, c'⟩, h1, h2, .inl ⟨rfl, hz⟩⟩, hb⟩
    · exact ⟨⟨false, ⟨0, p, [], c'⟩, h1, h2, .inr ⟨rfl, rfl, rfl, hN⟩⟩, hb⟩
theorem AddM.yes {vs : List Va} {ok : Bool} {coin x : Int} {l m : List As} (h : AddM vs ok coin l) (hz : AddZ vs x m) : ok = true ∧ coin = x ∧ l = m := by
  rcases h with ⟨h1, h2⟩ | ⟨_, _, _, h4⟩
  · exact ⟨h1, h2.2.eq hz.2⟩
  · exact absurd hz (h4 x m)
theorem AddM.no {vs : List Va} {ok : Bool} {coin : Int} {l : List As} (h : AddM vs ok coin l) (hn : AddN vs) : ok = false ∧ coin = 0 ∧ l = [] := by
  rcases h with ⟨h1, h2⟩ | ⟨h1, h2, h3, _⟩
  · exact absurd h2 (hn _ _)
  · exact ⟨h1, h2, h3⟩
theorem SubM.yes {a b : Va} {ok : Bool} {coin x : Int} {l m : List As} (h : SubM a b ok coin l) (hz : SubZ a b x m) : ok = true ∧ coin = x ∧ l = m := by
  rcases h with ⟨h1, h2⟩ | ⟨_, _, _, h4⟩
  · exact ⟨h1, h2.2.eq hz.2⟩
  · exact absurd hz (h4 x m)
/-- A bundle of coins alone. -/
def coinV (x : Int) : Va := ⟨x, none, [], 0⟩
theorem coinV_ok (w : World) (x : Int) (h0 : -9223372036854775808 ≤ x) (h1 : x < 9223372036854775808) : VaOk w (coinV x) := ⟨h0, h1, row_nil w⟩
theorem tot_none {f : Nm → BitVec 128} (h : ∀ n, f n = 0) : IsTot f (ctT []) := ⟨List.Pairwise.nil, fun p hp => by simp [ctT] at hp, fun n hn => absurd (h n) hn⟩
theorem tog_none {x : BitVec 128} {f : Nm → BitVec 128} {c : Int} (h : ∀ n, f n = 0) (hx : fitsW x = true) (hc : c = x.toNat) : TogOk x f c [] := ⟨hx, hc, [], tot_none h, by decide, fun t ht => by simp at ht, rfl⟩
theorem far_no : AddN [coinV 5, coinV 9223372036854775807] := fun coin l hz => by
  have h1 := (addZ2.1 hz).2.1
  revert h1
  decide
theorem five_yes : AddZ [coinV 2, coinV 3] 5 [] := addZ2.2 ⟨⟨by decide, by decide⟩, tog_none (fun n => by simp [Fw, ctsOf, coinV, sumAt]) (by decide) (by decide)⟩
def exA : List As := [⟨(hash1 1, [120]), 4⟩]
theorem exA_right (p : Option Addr) (c : Nat) : rightV ⟨3, p, exA, c⟩ = true := by
  show rightB 3 exA = true
  kernel_rfl
theorem self_yes {a : Va} (h : rightV a = true) : SubZ a a 0 [] := subZ.2 ⟨⟨h, h⟩, tog_none (fun n => by rw [BitVec.sub_self]; rfl) (by rw [BitVec.sub_self]; decide) (by rw [BitVec.sub_self]; decide)⟩
theorem bal_yes (ok : Bool) (h : BalOk ([coinV 9223372036854775807, coinV 9223372036854775807] ++ [⟨0, none, [], 0⟩]) ([coinV 9223372036854775807, coinV 9223372036854775806] ++ [⟨1, none, [], 0⟩]) ok) : ok = true := by
  refine h.2 ⟨by decide, fun n => ?_⟩
  simp [ctsL, ctsOf, coinV, sumAt]
theorem lies_new2 (w : World) (cs : Array Value) (t : TypeId) (g : Nat) (hg : g = w.heap.size) : Lies (w.alloc (.cells cs t)) g cs t := by rw [hg]; exact Lies.new _ _ _
theorem pair_ok (w : World) (x y : Int) (hx : -9223372036854775808 ≤ x ∧ x < 9223372036854775808) (hy : -9223372036854775808 ≤ y ∧ y < 9223372036854775808) : ∀ v, v ∈ [coinV x, coinV y] → VaOk w v := fun v hv => by
  rcases List.mem_cons.1 hv with rfl | hv
  · exact coinV_ok w x hx.1 hx.2
  · rw [List.mem_singleton] at hv
    rw [hv]
    exact coinV_ok w y hy.1 hy.2
/-- The pair of bundles of coins in a new block. -/
theorem pair_row (w : World) (x y : Int) (hx : -9223372036854775808 ≤ x ∧ x < 9223372036854775808) (hy : -9223372036854775808 ≤ y ∧ y < 9223372036854775808) :
    RowV (w.alloc (.cells #[.int .i64 x, .slice none 0 0, .int .i64 y, .slice none 0 0] 24)) (some ⟨w.heap.size, 0, none⟩) [coinV x, coinV y] :=
  rowV_of (Lies.new w #[.int .i64 x, .slice none 0 0, .int .i64 y, .slice none 0 0] 24) rfl (pair_ok _ x y hx hy) (show 2 ≤ maxLen by decide)
theorem run_slice2 (w : World) (a b c d : Value) : (Instr.buildSlice 28 2 #[(0, .agg #[a, b]), (1, .agg #[c, d])]).run Tryz.prog w = .ok (.slice (some ⟨w.heap.size, 0, none⟩) 2 2) (w.alloc (.cells #[a, b, c, d] 24)) := by
  obtain ⟨i, z, h1, h2, h3, h4, h5⟩ := info_parts info24
  refine run_buildSlice w 28 24 2 _ _ i z Tryz.underlying28 h1 h2 (by rw [h3]; omega) (by rw [h3]; omega) ?_
  rw [h3]
  have h := Great.fill_whole (s := 2) (by decide) [Value.agg #[a, b], Value.agg #[c, d]] ((Array.range (2 * 2)).map (z.cells[· % z.cells.size]!)) (by simp [Value.cells]) (by simp)
  simpa [Value.cells] using h
theorem exA_row {w : World} {g : Nat} (h : Lies w g (asC ⟨(hash1 1, [120]), 4⟩) 38) : Row w (some ⟨g, 0, none⟩) exA := ⟨show 1 ≤ maxLen by decide, fun a ha => by
    unfold exA at ha
    rw [List.mem_singleton] at ha
    subst ha
    exact ⟨by decide, show 1 ≤ maxLen by decide, by decide, by decide⟩, fun _ => ⟨g, 0, rfl, h.lt, fun i a hi => by
    have h0 : i = 0 := by have := (List.getElem?_eq_some_iff.1 hi).1; simp [exA] at this; exact this
    subst h0
    simp [exA] at hi
    subst hi
    simpa using range_lies h⟩⟩
attribute [-go_sem] Instr.buildSlice
set_option maxHeartbeats 8000000 in
theorem awake_any (w : World) :
    Calls Tryz.prog 8 #[] w fun e w' => e = .returned (.bool true) ∧ Below w.heap.size w w' := by
  have hof : ∀ W x n c (p : Option Addr), Calls Tryz.prog 46 #[.int .i64 x, .slice p n c] W fun e w' => e = .returned (.agg #[.int .i64 x, .slice p n c]) ∧ Below W.heap.size W w' := fun W x n c p => ofV_any W x p n c
  obtain ⟨av, hav⟩ : ∃ v, v = asC ⟨(hash1 1, [120]), 4⟩ := ⟨_, rfl⟩
  have has : av.size = 34 := by rw [hav]; exact asC_size _ (by decide)
  have hasset : ∀ W, Calls Tryz.prog 47 #[.int .u8 1, .string ⟨#[120]⟩, .int .i64 4] W fun e w' => e = .returned (.agg av) ∧ Below W.heap.size W w' := fun W => by
    rw [hav]; exact asset_any W 1 [120] 4
  have hsl1 : ∀ W : World, (Instr.buildSlice 22 1 #[(0, .agg av)]).run Tryz.prog W = .ok (.slice (some ⟨W.heap.size, 0, none⟩) 1 1) (W.alloc (.cells av 38)) := fun W => run_slice1 W 22 38 34 56 av Tryz.underlying22 info54 (by decide) (by decide) has
  have hsl2 : ∀ (W : World) (x y : Int), (Instr.buildSlice 28 2 #[(0, .agg #[.int .i64 x, .slice none 0 0]), (1, .agg #[.int .i64 y, .slice none 0 0])]).run Tryz.prog W = .ok (.slice (some ⟨W.heap.size, 0, none⟩) 2 2) (W.alloc (.cells #[.int .i64 x, .slice none 0 0, .int .i64 y, .slice none 0 0] 24)) := fun W x y => run_slice2 W _ _ _ _
  have HOF := Lib.hid hof
  have HAS := Lib.hid (And.intro hasset hav)
  clear hof hasset has hav
  go_enter Tryz.func8, Tryz.ntmps8
  go_wp2_with fail
  refine (HOF.out _ _ _ _ _).mono ?_
  rintro e w1 ⟨rfl, hb1⟩
  have HB1 := Lib.hid hb1
  clear hb1
  go_wp2_with fail
  refine (HOF.out _ _ _ _ _).mono ?_
  rintro e w2 ⟨rfl, hb2⟩
  have hbw2 := HB1.out.trans (hb2.mono HB1.out.size)
  have hadd := add_m _ _ _ 2 (pair_row w2 5 9223372036854775807 (by decide) (by decide)) (by decide)
  have hb3 : Below w.heap.size w (w2.alloc (.cells #[.int .i64 5, .slice none 0 0, .int .i64 9223372036854775807, .slice none 0 0] 24)) := hbw2.alloc hbw2.size _
  have HB2 := Lib.hid (And.intro hb3 hadd)
  clear hb2 hbw2 hadd hb3 HB1
  go_wp2_with fail
  refine HB2.out.2.mono ?_
  rintro e w3 ⟨⟨ok1, coin1, l1, p1, c1, rfl, hr1, hm1⟩, hb3⟩
  obtain ⟨rfl, rfl, rfl⟩ := hm1.no far_no
  have hbw3 := HB2.out.1.trans (hb3.mono HB2.out.1.size)
  have HB3 := Lib.hid hbw3
  clear hb3 hbw3 hr1 hm1 HB2
  go_upto_region 2 with fail
  have hb4 : Below w.heap.size w (w3.alloc (.cells #[.int .i64 0, .slice p1 0 c1] 24)) := HB3.out.alloc HB3.out.size _
  generalize w3.alloc (.cells #[.int .i64 0, .slice p1 0 c1] 24) = w4 at hb4 ⊢
  have HB4 := Lib.hid hb4
  clear hb4 HB3
  go_wp2_with fail
  refine (HAS.out.1 _).mono ?_
  rintro e w5 ⟨rfl, hb5⟩
  have hbw5 := HB4.out.trans (hb5.mono HB4.out.size)
  have hb6 : Below w.heap.size w (w5.alloc (.cells av 38)) := hbw5.alloc hbw5.size _
  have hL6 : Lies (w5.alloc (.cells av 38)) w5.heap.size av 38 := Lies.new _ _ _
  have HB5 := Lib.hid (And.intro hb6 hL6)
  clear hb5 hbw5 hb6 hL6 HB4
  go_wp2_with fail
  refine (HOF.out _ _ _ _ _).mono ?_
  rintro e w7 ⟨rfl, hb7⟩
  have hL7 := HB5.out.2.below hb7 HB5.out.2.lt
  have hbw7 := HB5.out.1.trans (hb7.mono HB5.out.1.size)
  obtain ⟨gA, hgA⟩ : ∃ g, g = w5.heap.size := ⟨_, rfl⟩
  rw [← hgA] at hL7 ⊢
  have HB7 := Lib.hid (And.intro hbw7 hL7)
  clear hb7 hL7 hbw7 hgA HB5
  go_upto_region 3 with fail
  have hb8 : Below w.heap.size w (w7.alloc (.cells #[.int .i64 3, .slice (some ⟨gA, 0, none⟩) 1 1] 24)) := HB7.out.1.alloc HB7.out.1.size _
  have hL8 : Lies (w7.alloc (.cells #[.int .i64 3, .slice (some ⟨gA, 0, none⟩) 1 1] 24)) w7.heap.size #[.int .i64 3, .slice (some ⟨gA, 0, none⟩) 1 1] 24 := Lies.new _ _ _
  have hL8a := HB7.out.2.alloc (.cells #[.int .i64 3, .slice (some ⟨gA, 0, none⟩) 1 1] 24)
  generalize w7.alloc (.cells #[.int .i64 3, .slice (some ⟨gA, 0, none⟩) 1 1] 24) = w8 at hb8 hL8 hL8a ⊢
  have q0 := hL8.cell 0 (v := .int .i64 3) rfl
  have q1 := hL8.cell 1 (v := .slice (some ⟨gA, 0, none⟩) 1 1) rfl
  have hva : VaOk w8 ⟨3, some ⟨gA, 0, none⟩, exA, 1⟩ := ⟨show (-9223372036854775808 : Int) ≤ 3 by decide, show (3 : Int) < 9223372036854775808 by decide, exA_row (by rw [← HAS.out.2]; exact hL8a)⟩
  have hsub := sub_m w8 ⟨3, some ⟨gA, 0, none⟩, exA, 1⟩ ⟨3, some ⟨gA, 0, none⟩, exA, 1⟩ hva hva
  have HB8 := Lib.hid (And.intro hb8 hsub)
  clear hb8 hL8 hL8a hva hsub HB7
  go_wp2_with fail
  refine HB8.out.2.mono ?_
  rintro e w9 ⟨⟨ok2, coin2, l2, p2, c2, rfl, hr2, hm2⟩, hb9⟩
  obtain ⟨rfl, rfl, rfl⟩ := hm2.yes (self_yes (exA_right _ _))
  have hbw9 := HB8.out.1.trans (hb9.mono HB8.out.1.size)
  have HB9 := Lib.hid hbw9
  clear hb9 hbw9 hr2 hm2 HB8 q0 q1
  go_upto_region 4 with fail
  have hb10 : Below w.heap.size w (w9.alloc (.cells #[.int .i64 0, .slice p2 0 c2] 24)) := HB9.out.alloc HB9.out.size _
  have hL10 : Lies (w9.alloc (.cells #[.int .i64 0, .slice p2 0 c2] 24)) w9.heap.size #[.int .i64 0, .slice p2 0 c2] 24 := Lies.new _ _ _
  generalize w9.alloc (.cells #[.int .i64 0, .slice p2 0 c2] 24) = w10 at hb10 hL10 ⊢
  have HB10 := Lib.hid (And.intro hb10 hL10)
  clear hb10 hL10 HB9
  go_wp2_with fail
  refine (HOF.out _ _ _ _ _).mono ?_
  rintro e w11 ⟨rfl, hb11⟩
  have HB11 := Lib.hid hb11
  clear hb11
  go_wp2_with fail
  refine (HOF.out _ _ _ _ _).mono ?_
  rintro e w12 ⟨rfl, hb12⟩
  have hb1012 := HB11.out.trans (hb12.mono HB11.out.size)
  have hadd := add_m _ _ _ 2 (pair_row w12 2 3 (by decide) (by decide)) (by decide)
  have hb13 : Below w10.heap.size w10 (w12.alloc (.cells #[.int .i64 2, .slice none 0 0, .int .i64 3, .slice none 0 0] 24)) := hb1012.alloc hb1012.size _
  have HB12 := Lib.hid (And.intro hb13 hadd)
  clear hb12 hb1012 hadd hb13 HB11
  go_wp2_with fail
  refine HB12.out.2.mono ?_
  rintro e w14 ⟨⟨ok3, coin3, l3, p3, c3, rfl, hr3, hm3⟩, hb14⟩
  obtain ⟨rfl, rfl, rfl⟩ := hm3.yes five_yes
  have hb1014 := HB12.out.1.trans (hb14.mono HB12.out.1.size)
  have HB14 := Lib.hid hb1014
  clear hb14 hb1014 hr3 hm3 HB12
  go_upto_region 5 with fail
  have hb15 : Below w10.heap.size w10 (w14.alloc (.cells #[.int .i64 5, .slice p3 0 c3] 24)) := HB14.out.alloc HB14.out.size _
  have hL15 : Lies (w14.alloc (.cells #[.int .i64 5, .slice p3 0 c3] 24)) w14.heap.size #[.int .i64 5, .slice p3 0 c3] 24 := Lies.new _ _ _
  generalize w14.alloc (.cells #[.int .i64 5, .slice p3 0 c3] 24) = w15 at hb15 hL15 ⊢
  have hL10 := HB10.out.2.below hb15 HB10.out.2.lt
  have hbw15 := HB10.out.1.trans (hb15.mono HB10.out.1.size)
  have q0 := hL10.cell 0 (v := .int .i64 0) rfl
  have q1 := hL10.cell 1 (v := .slice p2 0 c2) rfl
  have hnil : ∀ (W : World) (p : Option Addr), Row W p [] := fun W p => ⟨Nat.zero_le _, fun a ha => by simp at ha, fun h => absurd h (by simp)⟩
  have hsame := sameV_any w15 0 0 p2 none [] [] c2 0 (hnil _ _) (hnil _ _)
  rw [show sameB 0 0 [] [] = true from by decide] at hsame
  have HB15 := Lib.hid (And.intro hbw15 (And.intro hL15 hsame))
  clear hb15 hL15 hL10 hbw15 hnil hsame HB14 HB10
  go_wp2_with fail
  refine HB15.out.2.2.mono ?_
  rintro e w16 ⟨rfl, hb16⟩
  have hL16 := HB15.out.2.1.below hb16 HB15.out.2.1.lt
  have hbw16 := HB15.out.1.trans (hb16.mono HB15.out.1.size)
  have q2 := hL16.cell 0 (v := .int .i64 5) rfl
  have HB16 := Lib.hid hbw16
  clear hb16 hL16 hbw16 HB15 q0 q1
  go_wp2_with fail
  refine (HOF.out _ _ _ _ _).mono ?_
  rintro e w17 ⟨rfl, hb17⟩
  have hbw17 := HB16.out.trans (hb17.mono HB16.out.size)
  have HB17 := Lib.hid hbw17
  clear hb17 hbw17 HB16 q2
  go_wp2_with fail
  refine (HOF.out _ _ _ _ _).mono ?_
  rintro e w18 ⟨rfl, hb18⟩
  have hbw18 := HB17.out.trans (hb18.mono HB17.out.size)
  have hrowI := pair_row w18 9223372036854775807 9223372036854775807 (by decide) (by decide)
  have hb19 : Below w.heap.size w (w18.alloc (.cells #[.int .i64 9223372036854775807, .slice none 0 0, .int .i64 9223372036854775807, .slice none 0 0] 24)) := hbw18.alloc hbw18.size _
  obtain ⟨gI, hgI⟩ : ∃ g, g = w18.heap.size := ⟨_, rfl⟩
  rw [← hgI] at hrowI
  have HB18 := Lib.hid (And.intro hb19 (And.intro hrowI hgI))
  clear hb18 hbw18 hb19 hrowI hgI HB17
  go_wp2_with fail
  refine (HOF.out _ _ _ _ _).mono ?_
  rintro e w20 ⟨rfl, hb20⟩
  have hbw20 := HB18.out.1.trans (hb20.mono HB18.out.1.size)
  have hrowI := HB18.out.2.1.below hb20 (Nat.le_refl _)
  rw [← HB18.out.2.2]
  have HB20 := Lib.hid (And.intro hbw20 hrowI)
  clear hb20 hbw20 hrowI HB18
  go_wp2_with fail
  refine (HOF.out _ _ _ _ _).mono ?_
  rintro e w21 ⟨rfl, hb21⟩
  have hbw21 := HB20.out.1.trans (hb21.mono HB20.out.1.size)
  have hrowI := HB20.out.2.below hb21 (Nat.le_refl _)
  have hrowO := pair_row w21 9223372036854775807 9223372036854775806 (by decide) (by decide)
  have hb22 : Below w21.heap.size w21 (w21.alloc (.cells #[.int .i64 9223372036854775807, .slice none 0 0, .int .i64 9223372036854775806, .slice none 0 0] 24)) := (Below.refl _ _).alloc (Nat.le_refl _) _
  have hbal := balance_any _ (some ⟨gI, 0, none⟩) [coinV 9223372036854775807, coinV 9223372036854775807] 2 none [] 0 (some ⟨w21.heap.size, 0, none⟩) [coinV 9223372036854775807, coinV 9223372036854775806] 2 1 (hrowI.below hb22 (Nat.le_refl _)) (row_nil _) hrowO (by decide) (by decide) (fun h => by cases h) (fun h => by cases h) (by decide) (by decide) (by decide) (by decide) (fun p hp => by simp [ctsL, ctsOf, coinV] at hp) (fun p hp => by simp [ctsL, ctsOf, coinV] at hp)
  have HB22 := Lib.hid (And.intro (hbw21.trans (hb22.mono hbw21.size)) hbal)
  clear hb21 hbw21 hrowI hrowO hb22 hbal HB20
  go_wp2_with fail
  refine HB22.out.2.mono ?_
  rintro e w23 ⟨⟨ok4, rfl, hok4⟩, hb23⟩
  obtain rfl := bal_yes ok4 hok4
  have HB23 := Lib.hid (HB22.out.1.trans (hb23.mono HB22.out.1.size))
  clear hb23 hok4 HB22
  go_wp2_with fail
  go_ret
  exact ⟨rfl, HB23.out⟩
end Go.Proofs.YtjngghihciimjaaGreat
namespace Go.Proofs.YtjngghihciimjaaGreat
set_option maxRecDepth 100000
open Go.RowKit Go.Sort Go.Maps

theorem tri_row (w : World) (a b c : Va) (ha : VaOk w a) (hb : VaOk w b) (hc : VaOk w c) :
    RowV (w.alloc (.cells #[.int .i64 a.coin, .slice a.pa a.l.length a.c, .int .i64 b.coin, .slice b.pa b.l.length b.c, .int .i64 c.coin, .slice c.pa c.l.length c.c] 24)) (some ⟨w.heap.size, 0, none⟩) [a, b, c] :=
  rowV_of (Lies.new w _ 24) rfl (fun v hv => by
    have hb1 := (Below.refl w.heap.size w).alloc (Nat.le_refl _) (.cells #[.int .i64 a.coin, .slice a.pa a.l.length a.c, .int .i64 b.coin, .slice b.pa b.l.length b.c, .int .i64 c.coin, .slice c.pa c.l.length c.c] 24)
    rcases List.mem_cons.1 hv with rfl | hv
    · exact ha.below hb1 (Nat.le_refl _)
    · rcases List.mem_cons.1 hv with rfl | hv
      · exact hb.below hb1 (Nat.le_refl _)
      · rw [List.mem_singleton] at hv
        rw [hv]
        exact hc.below hb1 (Nat.le_refl _)) (show 3 ≤ maxLen by decide)
theorem duo_row (w : World) (a b : Va) (ha : VaOk w a) (hb : VaOk w b) :
    RowV (w.alloc (.cells #[.int .i64 a.coin, .slice a.pa a.l.length a.c, .int .i64 b.coin, .slice b.pa b.l.length b.c] 24)) (some ⟨w.heap.size, 0, none⟩) [a, b] :=
  rowV_of (Lies.new w _ 24) rfl (fun v hv => by
    have hb1 := (Below.refl w.heap.size w).alloc (Nat.le_refl _) (.cells #[.int .i64 a.coin, .slice a.pa a.l.length a.c, .int .i64 b.coin, .slice b.pa b.l.length b.c] 24)
    rcases List.mem_cons.1 hv with rfl | hv
    · exact ha.below hb1 (Nat.le_refl _)
    · rw [List.mem_singleton] at hv
      rw [hv]
      exact hb.below hb1 (Nat.le_refl _)) (show 2 ≤ maxLen by decide)
theorem same_m (w : World) (a b : Va) (ha : Row w a.pa a.l) (hb : Row w b.pa b.l) :
    Calls Tryz.prog 12 #[.agg #[.int .i64 a.coin, .slice a.pa a.l.length a.c], .agg #[.int .i64 b.coin, .slice b.pa b.l.length b.c]] w fun e w' => e = .returned (.bool (sameB a.coin b.coin a.l b.l)) ∧ Below w.heap.size w w' := sameV_any w a.coin b.coin a.pa b.pa a.l b.l a.c b.c ha hb
theorem sameB_yes (x : Int) (l : List As) : sameB x x l l = true := by simp [sameB]
theorem right_m (w : World) (a : Va) (ha : Row w a.pa a.l) :
    Calls Tryz.prog 14 #[.agg #[.int .i64 a.coin, .slice a.pa a.l.length a.c]] w fun e w' => e = .returned (.bool (rightV a)) ∧ Below w.heap.size w w' := right_any w a.coin a.pa a.l a.c ha
theorem cov_m (w : World) (a b : Va) (ha : VaOk w a) (hb : VaOk w b) (hz : ∃ coin l, SubZ a b coin l) :
    Calls Tryz.prog 13 #[.agg #[.int .i64 a.coin, .slice a.pa a.l.length a.c], .agg #[.int .i64 b.coin, .slice b.pa b.l.length b.c]] w fun e w' => e = .returned (.bool true) ∧ Below w.heap.size w w' :=
  (covers_any w a b ha hb).mono fun e w' hh => by
    obtain ⟨h1 | h1, h2⟩ := hh
    · exact ⟨h1.choose_spec.choose_spec.2, h2⟩
    · obtain ⟨coin, l, hz⟩ := hz
      exact absurd hz (h1.1 coin l)
theorem of_m (w : World) (a : Va) (p t : List UInt8) (ha : Row w a.pa a.l) (hp : p.length = 32) (ht : t.length ≤ maxLen) :
    Calls Tryz.prog 18 #[.agg #[.int .i64 a.coin, .slice a.pa a.l.length a.c], .agg (B8 p), .string (txt t)] w fun e w' => e = .returned (.int .i64 (amtOf a.l (p, t))) ∧ Below w.heap.size w w' := of_any w a.coin a.pa a.l a.c p t ha hp ht
theorem add_r (w : World) (vs : List Va) (g : Nat) (h : RowV w (some ⟨g, 0, none⟩) vs) (hn : vs.length ≤ 1000) :
    Calls Tryz.prog 24 #[.slice (some ⟨g, 0, none⟩) vs.length vs.length] w fun e w' => (∃ (ok : Bool) (S : Va), e = .returned (.tuple #[.agg #[.int .i64 S.coin, .slice S.pa S.l.length S.c], .bool ok]) ∧ Row w' S.pa S.l ∧ AddM vs ok S.coin S.l) ∧ Below w.heap.size w w' :=
  (add_m w _ vs vs.length h hn).mono fun e w' hh => by
    obtain ⟨⟨ok, coin, l, p, c, h1, h2, h3⟩, h4⟩ := hh
    exact ⟨⟨ok, ⟨coin, p, l, c⟩, h1, h2, h3⟩, h4⟩
theorem sub_r (w : World) (a b : Va) (ha : VaOk w a) (hb : VaOk w b) :
    Calls Tryz.prog 10 #[.agg #[.int .i64 a.coin, .slice a.pa a.l.length a.c], .agg #[.int .i64 b.coin, .slice b.pa b.l.length b.c]] w fun e w' => (∃ (ok : Bool) (S : Va), e = .returned (.tuple #[.agg #[.int .i64 S.coin, .slice S.pa S.l.length S.c], .bool ok]) ∧ Row w' S.pa S.l ∧ SubM a b ok S.coin S.l) ∧ Below w.heap.size w w' :=
  (sub_m w a b ha hb).mono fun e w' hh => by
    obtain ⟨⟨ok, coin, l, p, c, h1, h2, h3⟩, h4⟩ := hh
    exact ⟨⟨ok, ⟨coin, p, l, c⟩, h1, h2, h3⟩, h4⟩
theorem AddM.ok_of {vs us : List Va} (ht : ∀ coin l, AddZ vs coin l ↔ AddZ us coin l) {ok is : Bool} {x y : Int} {l m : List As} (h : AddM vs ok x l) (k : AddM us is y m) : is = ok ∧ y = x ∧ m = l := by
  rcases h with ⟨rfl, h2⟩ | ⟨rfl, rfl, rfl, h4⟩
  · obtain ⟨e1, e2, e3⟩ := k.yes ((ht _ _).1 h2)
    exact ⟨e1, e2, e3⟩
  · exact k.no fun coin l hz => h4 coin l ((ht _ _).2 hz)
theorem turn_iff (a b c : Va) (coin : Int) (l : List As) : AddZ [a, b, c] coin l ↔ AddZ [c, b, a] coin l := ⟨add_turn, add_turn⟩
theorem AddM.vaOk {w : World} {vs : List Va} {ok : Bool} {S : Va} (h : AddM vs ok S.coin S.l) (hr : Row w S.pa S.l) : VaOk w S := by
  rcases h with ⟨_, _, h2, h3, _⟩ | ⟨_, h2, _, _⟩
  · have := fits_nat h2
    exact ⟨by omega, by omega, hr⟩
  · exact ⟨by omega, by omega, hr⟩
theorem wpList_load_rowG {P : Program} {ops : Array Oper} {rest : List Oper} {o : Oper} {a : Act} {w : World} {Q : Exit → Act → World → Prop} (hw : Region.wanted o (yielded ops a.tmps) = true) (ty : TypeId) (x : Operand) (ho : o.op = .load ty x)
    (g : Nat) (hx : a.eval x = .pointer (some ⟨g, 0, none⟩)) (t : TypeId) (cs : Array Value) (fr : Nat × Nat) (d : TypeDesc) (hg : w.heap[g]? = some (.cells cs t fr))
    (hu : P.underlying ty = some d) (hd : (match d with | .struct _ | .array _ _ => true | _ => false) = true) (hi : (P.info? ty).map (·.size) = some cs.size)
    (h : wpList P ops Q rest (a.put o.dst (.agg cs)) w) : wpList P ops Q (o :: rest) a w := by
  unfold wpList
  rw [if_pos hw]
  exact .inl (wp_load_row ty x ho g hx t cs fr d hg hu hd hi h)
end Go.Proofs.YtjngghihciimjaaGreat
namespace Go.Proofs.YtjngghihciimjaaGreat
set_option maxRecDepth 100000
open Go.ChangeShapes Go.WideShapes Go.ChangeAt Go.RowKit Go.Deep

theorem list_of {α : Type} (z : α) (P : Nat → α → Prop) : ∀ n, (∀ j, j < n → ∃ b, P j b) → ∃ l : List α, l.length = n ∧ ∀ j, j < n → P j (l.getD j z)
  | 0, _ => ⟨[], rfl, fun j hj => absurd hj (by omega)⟩
  | n + 1, h => by
    obtain ⟨l, hl, hp⟩ := list_of z P n (fun j hj => h j (by omega))
    obtain ⟨b, hb⟩ := h n (by omega)
    refine ⟨l ++ [b], by simp [hl], fun j hj => ?_⟩
    by_cases hjn : j < n
    · have := hp j hjn
      rw [List.getD_eq_getElem?_getD, List.getElem?_append_left (by omega), ← List.getD_eq_getElem?_getD]
      exact this
    · obtain rfl : j = n := by omega
      rw [List.getD_eq_getElem?_getD, List.getElem?_append_right (by omega), hl]
      simpa using hb
theorem byte_of {z : Int} (h : (Lit.int .u8 z).wf = true) : ∃ b : UInt8, z = (b.toNat : Int) := by
  have hmin : IntKind.u8.min = 0 := rfl
  have hmax : IntKind.u8.max = 255 := rfl
  simp only [Lit.wf, Bool.and_eq_true, decide_eq_true_eq] at h
  refine ⟨UInt8.ofNat z.toNat, ?_⟩
  have : (UInt8.ofNat z.toNat).toNat = z.toNat := by simp; omega
  rw [this]
  omega
theorem int_of {a : Int} (h : (Lit.int .i64 a).wf = true) : -9223372036854775808 ≤ a ∧ a < 9223372036854775808 := by
  have hmin : IntKind.i64.min = -9223372036854775808 := rfl
  have hmax : IntKind.i64.max = 9223372036854775807 := rfl
  simp only [Lit.wf, Bool.and_eq_true, decide_eq_true_eq] at h
  omega
theorem args_stay {H : Type} {enc : TypeId × Value → H} {W W' : World} {t : TypeId} {v : Value} {d : DataW H} {ps : List MemPlace} (hr : Tryz.prog.readableRec t = true) (hrow : t < Tryz.prog.types.size)
    (h : DataW.Trod enc Tryz.prog W 0 (fun _ => true) true t v d ps) (hb : Below W.heap.size W W') (hlt : ∀ x ∈ ps, x.block < W.heap.size) : DataW.Trod enc Tryz.prog W' 0 (fun b => decide (b < W.heap.size)) true t v d ps :=
  Below.trod (by kernel_rfl) hr hrow h hb hlt
theorem dc26 : Tryz.prog.cellsOf 26 = 32 := by kernel_rfl
theorem dc5 : Tryz.prog.cellsOf 5 = 1 := by kernel_rfl
theorem dc54 : Tryz.prog.cellsOf 38 = 34 := by kernel_rfl
theorem dc24 : Tryz.prog.cellsOf 24 = 2 := by kernel_rfl
theorem dc9 : Tryz.prog.cellsOf 9 = 1 := by kernel_rfl
theorem dc2 : Tryz.prog.cellsOf 2 = 1 := by kernel_rfl
theorem dc22 : Tryz.prog.cellsOf 22 = 1 := by kernel_rfl
theorem txt_of (s : ByteArray) : s = txt s.data.toList := by
  show s = ⟨s.data.toList.toArray⟩
  rw [Array.toArray_toList]
section
variable {H : Type} {enc : TypeId × Value → H} {W : World}
theorem hash_in {fuel : Nat} {cs : List Value} {x : DataW H × List MemPlace} (hf : DataW.trod enc Tryz.prog W 0 (fun _ => true) true fuel 26 cs = some x) :
    ∃ m : List UInt8, m.length = 32 ∧ cs = (B8 m).toList := by
  obtain ⟨ys, k, _, _, hlen, hyl, hy⟩ := DataW.trod_array Tryz.underlying26 hf
  rw [dc26] at hlen
  have hcell : ∀ j, j < 32 → ∃ b : UInt8, cs[j]? = some (.int .u8 b.toNat) := by
    intro j hj
    have h1 := hy j hj
    rw [dc5, Nat.mul_one] at h1
    have hone : (cs.drop j).take 1 = [cs[j]'(by omega)] := by
      rw [List.drop_eq_getElem_cons (by omega)]; rfl
    rw [hone, List.getElem?_eq_getElem (by omega)] at h1
    obtain ⟨z, hz, _, hwf⟩ := DataW.trod_int Tryz.underlying5 h1
    obtain ⟨b, hb⟩ := byte_of hwf
    refine ⟨b, ?_⟩
    rw [← hb, List.getElem?_eq_getElem (by omega), (List.cons.inj hz).1]
  obtain ⟨m, hm, hms⟩ := list_of (0 : UInt8) (fun j x => cs[j]? = some (.int .u8 x.toNat)) 32 hcell
  refine ⟨m, hm, List.ext_getElem? fun j => ?_⟩
  by_cases hj : j < 32
  · rw [hms j hj, Array.getElem?_toList, B8_get m j (by omega)]
  · rw [List.getElem?_eq_none (by omega), List.getElem?_eq_none (by rw [Array.length_toList, B8_size]; omega)]
theorem cut34 (l : List Value) (h : l.length = 34) : l = (l.drop 0).take 32 ++ ((l.drop 32).take 1 ++ (l.drop 33).take 1) := by
  rw [List.drop_zero]
  have h1 : (l.drop 33).take 1 = l.drop 33 := List.take_of_length_le (by rw [List.length_drop]; omega)
  have h2 : l.drop 33 = (l.drop 32).drop 1 := by rw [List.drop_drop]
  rw [h1, h2, List.take_append_drop, List.take_append_drop]
/-- An asset as it comes in. -/
theorem asset_in {fuel : Nat} {cs : List Value} {x : DataW H × List MemPlace} (hf : DataW.trod enc Tryz.prog W 0 (fun _ => true) true fuel 38 cs = some x) :
    ∃ a : As, cs = (asC a).toList ∧ AsOk a := by
  obtain ⟨ys, n, _, hx, hlen, hyl, hg⟩ := DataW.trod_struct Tryz.underlying38 hf
  rw [dc54] at hlen
  have hyl3 : ys.length = 3 := hyl
  have at_ := fun (j : Nat) (f : Field) (hj : j < 3) hfj => (hg j f hfj).trans (List.getElem?_eq_getElem (show j < ys.length by omega))
  obtain ⟨hs, hl, e0⟩ := hash_in (at_ 0 _ (by omega) rfl)
  obtain ⟨s, e1, _, hsl⟩ := DataW.trod_string Tryz.underlying9 (at_ 1 _ (by omega) rfl)
  obtain ⟨n2, e2, _, w2⟩ := DataW.trod_int Tryz.underlying2 (at_ 2 _ (by omega) rfl)
  obtain ⟨hlo, hhi⟩ := int_of w2
  have f0 : (cs.drop 0).take (Tryz.prog.cellsOf 26) = (B8 hs).toList := e0
  have f1 : (cs.drop 32).take (Tryz.prog.cellsOf 9) = [.string s] := e1
  have f2 : (cs.drop 33).take (Tryz.prog.cellsOf 2) = [.int .i64 n2] := e2
  rw [dc26] at f0
  rw [dc9] at f1
  rw [dc2] at f2
  refine ⟨⟨(hs, s.data.toList), n2⟩, ?_, hl, ?_, hlo, hhi⟩
  · rw [cut34 cs hlen, f0, f1, f2]
    show _ = (B8 hs ++ (#[Value.string (txt s.data.toList), Value.int .i64 n2] : Array Value)).toList
    rw [← txt_of s]
    simp
  · show s.data.toList.length ≤ maxLen
    have : s.data.toList.length = s.size := by simp
    omega
/-- Assets in a row as they come in. -/
theorem assets_in {fuel : Nat} {cs : List Value} {x : DataW H × List MemPlace} (hf : DataW.trod enc Tryz.prog W 0 (fun _ => true) true fuel 22 cs = some x) :
    ∃ (pa : Option Addr) (l : List As) (c : Nat), cs = [.slice pa l.length c] ∧ Row W pa l := by
  rcases open_slice Tryz.underlying22 hf with ⟨hcs, _⟩ | ⟨a, len, cap, m, n, D, Pl, hcs, hle, hl, hm, hmm, hx, hi⟩
  · exact ⟨none, [], 0, hcs, row_nil W⟩
  · simp only [if_true] at hmm
    subst hmm
    have each : ∀ i, i < len → ∃ q : As, AsOk q ∧ ∀ j v, (asC q)[j]? = some v → W.cell? (a.add (i * 34 + j)) = some v := by
      intro i hil
      obtain ⟨cs', hc, ht⟩ := hi i (by omega)
      rw [dc54] at hc
      obtain ⟨_, hcl, hat⟩ := World.cells?_some hc
      obtain ⟨q, rfl, hq⟩ := asset_in ht
      refine ⟨q, hq, fun j v hj => ?_⟩
      have hj34 : j < 34 := by
        have := (Array.getElem?_eq_some_iff.1 hj).1
        rwa [asC_size q hq.1] at this
      rw [← Go.Deep.add_add, hat j hj34, Array.getElem?_toList, hj]
    obtain ⟨xs, hpl, hps⟩ := list_of (⟨([], []), 0⟩ : As) (fun i q => AsOk q ∧ ∀ j v, (asC q)[j]? = some v → W.cell? (a.add (i * 34 + j)) = some v) len each
    subst hpl
    have hget : ∀ i q, xs[i]? = some q → AsOk q ∧ ∀ j v, (asC q)[j]? = some v → W.cell? (a.add (i * 34 + j)) = some v := fun i q hq => by
      have h1 := hps i (List.getElem?_eq_some_iff.1 hq).1
      rw [List.getD_eq_getElem?_getD, hq] at h1
      exact h1
    refine ⟨some a, xs, m, hcs, by omega, fun q hq => ?_, fun hpos => ?_⟩
    · obtain ⟨i, hi2⟩ := List.getElem?_of_mem hq
      exact (hget i q hi2).1
    · obtain ⟨b, off, spot⟩ := a
      obtain ⟨hok0, h00⟩ := hget 0 _ (List.getElem?_eq_getElem hpos)
      have h0 := h00 0 _ (asC_get _ hok0.1 0 (by decide))
      have hspot : spot = none := by simpa [Addr.add] using World.cell?_spot h0
      subst hspot
      refine ⟨b, off, rfl, block_lt_of_cell h0, fun i q hi2 j v hj => ?_⟩
      rw [Array.getElem?_toList] at hj
      have h2 := (hget i q hi2).2 j v hj
      rw [Addr.add_lit] at h2
      rw [show off + i * 34 + j = off + (i * 34 + j) by omega]
      exact h2
theorem cut2 {l : List Value} (h : l.length = 2) : l = (l.drop 0).take 1 ++ (l.drop 1).take 1 := by
  match l, h with
  | [a, b], _ => rfl
/-- A bundle as it comes in. -/
theorem open_value {b0 : Nat} {v : Value} {d : DataW H} {p : List MemPlace} (hv : Value.okWide Tryz.prog W .any b0 24 v) (h : DataW.Trod enc Tryz.prog W 0 (fun _ => true) true 24 v d p) :
    ∃ x : Va, v = .agg #[.int .i64 x.coin, .slice x.pa x.l.length x.c] ∧ VaOk W x := by
  simp only [Value.okWide, Tryz.underlying24] at hv
  obtain ⟨cs, rfl, hsz, -⟩ := hv
  rw [dc24] at hsz
  obtain ⟨fuel, hf⟩ := h
  obtain ⟨ys, m, _, hx, hlen, hyl, hg⟩ := DataW.trod_struct Tryz.underlying24 hf
  have hyl2 : ys.length = 2 := hyl
  have at_ := fun (j : Nat) (f : Field) (hj : j < 2) hfj => (hg j f hfj).trans (List.getElem?_eq_getElem (show j < ys.length by omega))
  obtain ⟨n0, e0, _, w0⟩ := DataW.trod_int Tryz.underlying2 (at_ 0 _ (by omega) rfl)
  obtain ⟨pa, l, c, e1, hr⟩ := assets_in (at_ 1 _ (by omega) rfl)
  obtain ⟨hlo, hhi⟩ := int_of w0
  have f0 : (cs.toList.drop 0).take (Tryz.prog.cellsOf 2) = [.int .i64 n0] := e0
  have f1 : (cs.toList.drop 1).take (Tryz.prog.cellsOf 22) = [.slice pa l.length c] := e1
  rw [dc2] at f0
  rw [dc22] at f1
  refine ⟨⟨n0, pa, l, c⟩, ?_, hlo, hhi, hr⟩
  have h2 := cut2 (l := cs.toList) (by simpa using hsz)
  rw [f0, f1] at h2
  exact congrArg Value.agg (Array.toList_inj.1 h2)
theorem open_hash {b0 : Nat} {v : Value} {d : DataW H} {p : List MemPlace} (hv : Value.okWide Tryz.prog W .any b0 26 v) (h : DataW.Trod enc Tryz.prog W 0 (fun _ => true) true 26 v d p) :
    ∃ m : List UInt8, v = .agg (B8 m) ∧ m.length = 32 := by
  simp only [Value.okWide, Tryz.underlying26] at hv
  obtain ⟨cs, rfl, -⟩ := hv
  obtain ⟨fuel, hf⟩ := h
  obtain ⟨m, hm, e⟩ := hash_in hf
  have e2 : cs.toList = (B8 m).toList := e
  exact ⟨m, congrArg Value.agg (Array.toList_inj.1 e2), hm⟩
theorem open_text {b0 : Nat} {v : Value} {d : DataW H} {p : List MemPlace} (hv : Value.okWide Tryz.prog W .any b0 9 v) (h : DataW.Trod enc Tryz.prog W 0 (fun _ => true) true 9 v d p) : ∃ t : List UInt8, v = .string (txt t) ∧ t.length ≤ maxLen := by
  obtain ⟨s, rfl⟩ := okWide_string Tryz.underlying9 hv
  obtain ⟨fuel, hf⟩ := h
  obtain ⟨s', e, _, hsl⟩ := DataW.trod_string Tryz.underlying9 hf
  have e2 : s = s' := by simpa [Value.cells] using e
  subst e2
  refine ⟨s.data.toList, by rw [← txt_of s], ?_⟩
  have : s.data.toList.length = s.size := by simp
  omega
end
end Go.Proofs.YtjngghihciimjaaGreat
namespace Go.Proofs.YtjngghihciimjaaGreat
set_option maxRecDepth 100000
open Go.RowKit Go.Sort Go.Maps Go.ChangeShapes Go.WideShapes Go.ChangeAt Go.Deep

section
variable {H : Type} {enc : TypeId × Value → H} {W : World}
/-- A row that is nil has no room. -/
theorem assetsC_in {fuel : Nat} {cs : List Value} {x : DataW H × List MemPlace} (hf : DataW.trod enc Tryz.prog W 0 (fun _ => true) true fuel 22 cs = some x) :
    ∃ (pa : Option Addr) (l : List As) (c : Nat), cs = [.slice pa l.length c] ∧ Row W pa l ∧ (pa = none → c = 0) := by
  obtain ⟨pa, l, c, e, hr⟩ := assets_in hf
  refine ⟨pa, l, c, e, hr, fun hn => ?_⟩
  rcases open_slice Tryz.underlying22 hf with ⟨hcs, _⟩ | ⟨a, len, cap, m, n, D, Pl, hcs, _⟩
  · rw [e] at hcs
    simp only [List.cons.injEq, Value.slice.injEq, and_true] at hcs
    exact hcs.2.2
  · rw [e, hn] at hcs
    simp at hcs
/-- What is asked of a bundle that is copied. -/
def Room (v : Va) : Prop := v.pa = none → v.c = 0
theorem value_in {fuel : Nat} {cs : List Value} {x : DataW H × List MemPlace} (hf : DataW.trod enc Tryz.prog W 0 (fun _ => true) true fuel 24 cs = some x) :
    ∃ v : Va, cs = (vaC v).toList ∧ VaOk W v ∧ Room v := by
  obtain ⟨ys, m, _, hx, hlen, hyl, hg⟩ := DataW.trod_struct Tryz.underlying24 hf
  rw [dc24] at hlen
  have hyl2 : ys.length = 2 := hyl
  have at_ := fun (j : Nat) (f : Field) (hj : j < 2) hfj => (hg j f hfj).trans (List.getElem?_eq_getElem (show j < ys.length by omega))
  obtain ⟨n0, e0, _, w0⟩ := DataW.trod_int Tryz.underlying2 (at_ 0 _ (by omega) rfl)
  obtain ⟨pa, l, c, e1, hr, hc⟩ := assetsC_in (at_ 1 _ (by omega) rfl)
  obtain ⟨hlo, hhi⟩ := int_of w0
  have f0 : (cs.drop 0).take (Tryz.prog.cellsOf 2) = [.int .i64 n0] := e0
  have f1 : (cs.drop 1).take (Tryz.prog.cellsOf 22) = [.slice pa l.length c] := e1
  rw [dc2] at f0
  rw [dc22] at f1
  refine ⟨⟨n0, pa, l, c⟩, ?_, ⟨hlo, hhi, hr⟩, hc⟩
  have h2 := cut2 (l := cs) hlen
  rw [f0, f1] at h2
  exact h2
theorem values_in {fuel : Nat} {cs : List Value} {x : DataW H × List MemPlace} (hf : DataW.trod enc Tryz.prog W 0 (fun _ => true) true fuel 28 cs = some x) :
    ∃ (pa : Option Addr) (vs : List Va) (c : Nat), cs = [.slice pa vs.length c] ∧ RowV W pa vs ∧ (∀ v, v ∈ vs → Room v) ∧ (pa = none → c = 0) := by
  rcases open_slice Tryz.underlying28 hf with ⟨hcs, _⟩ | ⟨a, len, cap, m, n, D, Pl, hcs, hle, hl, hm, hmm, hx, hi⟩
  · exact ⟨none, [], 0, hcs, ⟨Nat.zero_le _, fun h => absurd h (by simp)⟩, fun v hv => by simp at hv, fun _ => rfl⟩
  · simp only [if_true] at hmm
    subst hmm
    have each : ∀ i, i < len → ∃ q : Va, (VaOk W q ∧ Room q) ∧ ∀ j v, (vaC q)[j]? = some v → W.cell? (a.add (i * 2 + j)) = some v := by
      intro i hil
      obtain ⟨cs', hc, ht⟩ := hi i (by omega)
      rw [dc24] at hc
      obtain ⟨_, hcl, hat⟩ := World.cells?_some hc
      obtain ⟨q, rfl, hq, hrm⟩ := value_in ht
      refine ⟨q, ⟨hq, hrm⟩, fun j v hj => ?_⟩
      have hj2 : j < 2 := by
        have := (Array.getElem?_eq_some_iff.1 hj).1
        rwa [vaC_size q] at this
      rw [← Go.Deep.add_add, hat j hj2, Array.getElem?_toList, hj]
    obtain ⟨xs, hpl, hps⟩ := list_of (⟨0, none, [], 0⟩ : Va) (fun i q => (VaOk W q ∧ Room q) ∧ ∀ j v, (vaC q)[j]? = some v → W.cell? (a.add (i * 2 + j)) = some v) len each
    subst hpl
    have hget : ∀ i q, xs[i]? = some q → (VaOk W q ∧ Room q) ∧ ∀ j v, (vaC q)[j]? = some v → W.cell? (a.add (i * 2 + j)) = some v := fun i q hq => by
      have h1 := hps i (List.getElem?_eq_some_iff.1 hq).1
      rw [List.getD_eq_getElem?_getD, hq] at h1
      exact h1
    refine ⟨some a, xs, m, hcs, ⟨by omega, fun hpos => ?_⟩, fun q hq => ?_, fun e => by cases e⟩
    · obtain ⟨b, off, spot⟩ := a
      obtain ⟨hok0, h00⟩ := hget 0 _ (List.getElem?_eq_getElem hpos)
      have h0 := h00 0 _ (show (vaC xs[0])[0]? = some (.int .i64 xs[0].coin) from rfl)
      have hspot : spot = none := by simpa [Addr.add] using World.cell?_spot h0
      subst hspot
      refine ⟨b, off, rfl, block_lt_of_cell h0, fun i q hi2 => ⟨fun j v hj => ?_, (hget i q hi2).1.1⟩⟩
      rw [Array.getElem?_toList] at hj
      have h2 := (hget i q hi2).2 j v hj
      rw [Addr.add_lit] at h2
      rw [show off + i * 2 + j = off + (i * 2 + j) by omega]
      exact h2
    · obtain ⟨i, hi2⟩ := List.getElem?_of_mem hq
      exact (hget i q hi2).1.2
/-- A bundle as it comes in. -/
theorem open_valueC {b0 : Nat} {v : Value} {d : DataW H} {p : List MemPlace} (hv : Value.okWide Tryz.prog W .any b0 24 v) (h : DataW.Trod enc Tryz.prog W 0 (fun _ => true) true 24 v d p) :
    ∃ x : Va, v = .agg #[.int .i64 x.coin, .slice x.pa x.l.length x.c] ∧ VaOk W x ∧ Room x := by
  simp only [Value.okWide, Tryz.underlying24] at hv
  obtain ⟨cs, rfl, -⟩ := hv
  obtain ⟨fuel, hf⟩ := h
  obtain ⟨x, e, hx, hc⟩ := value_in hf
  have e2 : cs.toList = (vaC x).toList := e
  exact ⟨x, congrArg Value.agg (Array.toList_inj.1 e2), hx, hc⟩
/-- A row of bundles as it comes in. -/
theorem open_values {b0 : Nat} {v : Value} {d : DataW H} {p : List MemPlace} (hv : Value.okWide Tryz.prog W .any b0 28 v) (h : DataW.Trod enc Tryz.prog W 0 (fun _ => true) true 28 v d p) :
    ∃ (pa : Option Addr) (vs : List Va) (c : Nat), v = .slice pa vs.length c ∧ RowV W pa vs ∧ (∀ v, v ∈ vs → Room v) ∧ (pa = none → c = 0) := by
  obtain ⟨a0, len, cap, rfl⟩ := okWide_slice Tryz.underlying28 hv
  obtain ⟨fuel, hf⟩ := h
  obtain ⟨pa, vs, c, e, hr⟩ := values_in hf
  exact ⟨pa, vs, c, by simpa [Value.cells] using e, hr⟩
/-- A row of assets as it comes in. -/
theorem open_assets {b0 : Nat} {v : Value} {d : DataW H} {p : List MemPlace} (hv : Value.okWide Tryz.prog W .any b0 22 v) (h : DataW.Trod enc Tryz.prog W 0 (fun _ => true) true 22 v d p) :
    ∃ (pa : Option Addr) (l : List As) (c : Nat), v = .slice pa l.length c ∧ Row W pa l ∧ (pa = none → c = 0) := by
  obtain ⟨a0, len, cap, rfl⟩ := okWide_slice Tryz.underlying22 hv
  obtain ⟨fuel, hf⟩ := h
  obtain ⟨pa, l, c, e, hr⟩ := assetsC_in hf
  exact ⟨pa, l, c, by simpa [Value.cells] using e, hr⟩
theorem open_num {b0 : Nat} {v : Value} {d : DataW H} {p : List MemPlace} (hv : Value.okWide Tryz.prog W .any b0 2 v) (h : DataW.Trod enc Tryz.prog W 0 (fun _ => true) true 2 v d p) : ∃ n : Int, v = .int .i64 n ∧ -9223372036854775808 ≤ n ∧ n < 9223372036854775808 := by
  obtain ⟨z, rfl⟩ := okWide_int Tryz.underlying2 hv
  obtain ⟨fuel, hf⟩ := h
  obtain ⟨n, e, _, w⟩ := DataW.trod_int Tryz.underlying2 hf
  obtain ⟨h1, h2⟩ := int_of w
  have e2 : z = n := by simpa [Value.cells] using e
  subst e2
  exact ⟨z, rfl, h1, h2⟩
end
end Go.Proofs.YtjngghihciimjaaGreat
