/-
  pack: the kit's SameOutput tells true of one and the same output, wherever it lies.
-/
import Derived.Test.YtilbbemdinpjcaaGreatJQc
import Derived.Test.YtilbbemdinpjcaaGreatJWTwo
import Derived.Test.YtilbbemdinpjcaaGreatJQi
import Derived.Test.YtilbbemdinpjcaaGreatJVu
set_option maxHeartbeats 16000000
namespace Go.Proofs.YtilbbemdinpjcaaGreat.P
set_option maxRecDepth 100000
open Go.RowKit Go.Sort
def exN : List T.Nd := [⟨4, 0, 0, ⟨#[]⟩, 2⟩, ⟨1, 1, 0, ⟨#[]⟩, 0⟩, ⟨2, 0, 0, ⟨#[97, 98]⟩, 0⟩]
def exC : Array Value := #[.int .i64 4, .int .i64 0, .int .u64 0, .string ⟨#[]⟩, .int .i64 2, .int .i64 1, .int .i64 1, .int .u64 0, .string ⟨#[]⟩, .int .i64 0, .int .i64 2, .int .i64 0, .int .u64 0, .string ⟨#[97, 98]⟩, .int .i64 0]
theorem ex_at {w : World} {g : Nat} (h : Lies w g exC 72) : T.TAt w (some ⟨g, 0, none⟩) exN := by
 refine ⟨fun _ => ⟨g, 0, rfl, h.lt, fun j hj i v hv => ?_⟩, by decide, by decide⟩
 rw [Nat.zero_add]
 refine h.cell (j * 5 + i) ?_
 have hi : i < 5 := by
  have := (Array.getElem?_eq_some_iff.1 hv).1
  simpa [T.Nd.cells] using this
 have hj3 : j < 3 := hj
 have key : exC[j * 5 + i]? = (exN[j]).cells[i]? := by
  match j, hj3, i, hi with
  | 0, _, 0, _ => rfl
  | 0, _, 1, _ => rfl
  | 0, _, 2, _ => rfl
  | 0, _, 3, _ => rfl
  | 0, _, 4, _ => rfl
  | 1, _, 0, _ => rfl
  | 1, _, 1, _ => rfl
  | 1, _, 2, _ => rfl
  | 1, _, 3, _ => rfl
  | 1, _, 4, _ => rfl
  | 2, _, 0, _ => rfl
  | 2, _, 1, _ => rfl
  | 2, _, 2, _ => rfl
  | 2, _, 3, _ => rfl
  | 2, _, 4, _ => rfl
 rw [key]
 exact hv
theorem list_any (w : World) : Calls Tryz.prog 48 #[] w fun e w' => ∃ g, e = .returned (.agg #[.slice (some ⟨g, 0, none⟩) 3 3]) ∧ T.TAt w' (some ⟨g, 0, none⟩) exN ∧ w.heap.size ≤ g ∧ g < w'.heap.size ∧ Below w.heap.size w w' := by
 obtain ⟨hA, hb⟩ := box_one w (.slice none 0 0) 24
 go_enter Tryz.func48, Tryz.ntmps48
 go_upto_region 1 with fail
 generalize w.alloc (.cells #[.slice none 0 0] 24) = W0 at hA hb ⊢
 obtain ⟨r, hr⟩ : ∃ r, r = w.heap.size := ⟨_, rfl⟩
 rw [← hr] at hA ⊢
 have HR := Lib.hid hr
 clear hr
 have hL := Lies.new W0 exC 72
 have hb1 : Below W0.heap.size W0 (W0.alloc (.cells exC 72)) := (Below.refl _ _).alloc (Nat.le_refl _) _
 have hA1 := hA.below hb1 hA.lt
 unfold exC at hL hb1 hA1
 have c0 := hA1.cell 0 (v := .slice none 0 0) rfl
 have f0 := hA1.free 0
 have HA := Lib.hid (And.intro hA1 (And.intro hL (And.intro hb hb1)))
 have hS := Lib.hid (hA1.set 0 (.slice (some ⟨W0.heap.size, 0, none⟩) 3 3))
 have HL := Lib.hid hA.lt
 clear hA1 hL hb hb1 hA
 go_wp2_with fail
 refine bodyPost_ret (v := .agg #[.slice (some ⟨W0.heap.size, 0, none⟩) 3 3]) (results_cell_row (p := 0) (ty := 24) (by kernel_rfl) _ _ r 24 #[.slice (some ⟨W0.heap.size, 0, none⟩) 3 3] (0, 0) _ rfl hS.out Tryz.underlying24 rfl (by kernel_rfl)) rfl ?_
 have hne : W0.heap.size ≠ r := by have := HL.out; omega
 have hl := (heap_setCell_other (W0.alloc (.cells #[.int .i64 4, .int .i64 0, .int .u64 0, .string ⟨#[]⟩, .int .i64 2, .int .i64 1, .int .i64 1, .int .u64 0, .string ⟨#[]⟩, .int .i64 0, .int .i64 2, .int .i64 0, .int .u64 0, .string ⟨#[97, 98]⟩, .int .i64 0] 72)) ⟨r, 0, none⟩ W0.heap.size (.slice (some ⟨W0.heap.size, 0, none⟩) 3 3) hne).trans HA.out.2.1
 refine ⟨W0.heap.size, rfl, ex_at hl, HA.out.2.2.1.size, Lies.lt (cs := exC) (t := 72) hl, ?_⟩
 exact below_setCell (HA.out.2.2.1.trans (HA.out.2.2.2.mono HA.out.2.2.1.size)) ⟨r, 0, none⟩ _ (by rw [HR.out]; exact Nat.le_refl _)
end Go.Proofs.YtilbbemdinpjcaaGreat.P
namespace Go.Proofs.YtilbbemdinpjcaaGreat.P
set_option maxRecDepth 100000
open Go.RowKit Go.Sort
def exB : List UInt8 := [4, 0, 2, 1, 0, 0, 0, 0, 0, 0, 0, 1, 2, 0, 2, 97, 98]
theorem ex_right : T.rightB exN = true := by kernel_rfl
theorem ex_put : termS (some []) exN = some exB := by decide
theorem ex_get : decT exB 100 1 [] (some 0) = some (exN, 17) := by rfl
def exO : Ot := ⟨false, zeroH, ⟨5, none, [], 0⟩, 0, zeroH, none, [], 0⟩
theorem ex_long : sz (if rightOB exO then outS (some []) exO else none) = 44 := by decide
theorem ex_ok (w : World) : OtOk w exO := ⟨rfl, ⟨by decide, by decide, Nat.zero_le _, fun a ha => (by cases ha), fun h => absurd h (by decide)⟩, rfl, ⟨fun h => absurd h (by decide), by decide, fun x hx => (by cases hx)⟩, Nat.le_refl _⟩
end Go.Proofs.YtilbbemdinpjcaaGreat.P
namespace Go.Proofs.YtilbbemdinpjcaaGreat.P
set_option maxRecDepth 100000
open Go.RowKit Go.Sort
theorem nat_lk {g : Nat} {w w' : World} {v v' : Value} {a : Option Addr} {q : Nat} {ns : List T.Nd} (ha : a = some ⟨q, 0, none⟩) (h : T.TAt w a ns) (k : Lk g w v w' v') (h1 : q ≠ g) (h2 : v.ownBlock ≠ some q) : T.TAt w' a ns :=
 ⟨fun h0 => by
  obtain ⟨gx, off, e, hn⟩ := h.1 h0
  have hq : gx = q := by rw [ha] at e; exact (congrArg (fun x : Option Addr => (x.map (·.block)).getD 0) e).symm
  subst hq
  exact ⟨gx, off, e, Nat.lt_of_lt_of_le hn.1 k.1.size, fun j hj i v hv => (k.cell hn.1 h1 h2).trans (hn.2 j hj i v hv)⟩, h.2⟩
theorem str_ex {V : World} {b c : Nat} (h : W.Src V b 0 exB) : (convert 54 9 (.slice (some ⟨b, 0, none⟩) 17 c)).run Tryz.prog V = .ok (.string ⟨#[4, 0, 2, 1, 0, 0, 0, 0, 0, 0, 0, 1, 2, 0, 2, 97, 98]⟩) V := W.str_of_src (c := c) h
theorem src_below {V V' : World} {b B : Nat} {l : List UInt8} (h : W.Src V b 0 l) (hb : Below B V V') (hl : b < B) : W.Src V' b 0 l := fun j hj => (hb.cell (p := ⟨b, 0 + j, none⟩) hl).trans (h j hj)
theorem ex_same : T.sameN exN exN = true := by decide +kernel
theorem awakeP_more (w : World) : Calls Tryz.prog 10 #[] w fun e w' => e = .returned (.bool true) ∧ Below w.heap.size w w' ∧ 0 < w'.heap.size := by
 go_enter Tryz.func10, Tryz.ntmps10
 go_wp2_with fail
 refine (newW_any w).mono ?_
 rintro e W1 ⟨rfl, ⟨v1, hw1⟩, hb1⟩
 obtain ⟨g, hg⟩ : ∃ g, g = w.heap.size := ⟨_, rfl⟩
 have HG := Lib.hid hg
 have HB1 := Lib.hid hb1
 rw [← hg] at hw1 ⊢
 have H1 := Lib.hid hw1
 clear hw1 hb1 hg
 go_wp2_with fail
 refine (list_any W1).mono ?_
 rintro e W2 ⟨gx, rfl, htat, hgx, hgl, hb2⟩
 have hw2 := H1.out.belowW hb2
 have hxg : gx ≠ g := by have := H1.out.lt; omega
 have hxo : v1.ownBlock ≠ some gx := fun e => by have := (H1.out.own gx e).2; omega
 have hst : Stays g W2 v1 fun V => T.TAt V (some ⟨gx, 0, none⟩) exN := fun V _ hl => nat_lk rfl htat hl hxg hxo
 have hpt := putTerm_any W2 (some ⟨gx, 0, none⟩) 3 exN hst (by decide) (by
  intro x hx
  simp only [exN, List.mem_cons, List.mem_nil_iff, or_false] at hx
  rcases hx with rfl | rfl | rfl
  all_goals exact ⟨⟨by decide, by decide⟩, ⟨by decide, by decide⟩, by decide, by decide, ⟨by decide, by decide⟩⟩) hw2 (by decide)
 rw [if_pos ex_right, ex_put] at hpt
 have HP := Lib.hid hpt
 have H2 := Lib.hid (And.intro hw2 (HB1.out.trans (hb2.mono HB1.out.size)))
 clear htat hgx hgl hb2 hw2 hst hpt hxg hxo
 go_wp2_with fail
 refine HP.out.mono ?_
 rintro e W3 ⟨rfl, v3, hw3, hk3⟩
 have hb3 : Below g W2 W3 := hk3.low (Nat.le_refl _) (fun x e => (H2.out.1.own x e).1) (by have := H2.out.1.lt; omega)
 have H3 := Lib.hid (And.intro hw3 (H2.out.2.trans (show Below w.heap.size W2 W3 by rw [← HG.out]; exact hb3)))
 clear hw3 hk3 hb3 HP
 go_wp2_with fail
 refine (bytesW_any W3 H3.out.1 (by decide)).mono ?_
 rintro e W4 ⟨u, er, rfl, her, hown, hb4⟩
 rw [show (if (some exB : Option (List UInt8)).isNone = true then (2 : Int) else 0) = 0 from rfl] at her
 subst her
 rw [show bs (some exB) = exB from rfl] at hown
 obtain ⟨kb, c, rfl⟩ : ∃ kb c, u = .slice (some ⟨kb, 0, none⟩) 17 c := by
  rcases hown.2 with ⟨-, h2⟩ | ⟨kb, cap, cur, rfl, _⟩
  ·
   cases h2
  ·
   exact ⟨kb, cap, rfl⟩
 have hsrc := W.own_src hown
 have hkl : kb < W4.heap.size := W.own_lt hown rfl
 have H4 := Lib.hid (And.intro hsrc (And.intro hkl (H3.out.2.trans (hb4.mono H3.out.2.size))))
 clear hown hsrc hkl hb4
 go_wp2_with fail
 refine (W.newreader_some W4 kb 0 c exB H4.out.1 H4.out.2.1 (by decide) (by decide)).mono ?_
 rintro e W5 ⟨g5, k5, c5, rfl, hg5, hk5, hr5, hb5⟩
 have hs5 := src_below H4.out.1 hb5 H4.out.2.1
 have HC := Lib.hid (getTerm_any W5 g5 k5 exB c5 (some 0) ⟨Nat.zero_le _, hr5⟩)
 have H5 := Lib.hid (And.intro hs5 (And.intro (Nat.lt_of_lt_of_le H4.out.2.1 hb5.size) (And.intro (H4.out.2.2.trans (hb5.mono H4.out.2.2.size)) hg5)))
 clear hs5 hr5 hb5 hg5 hk5
 go_wp2_with fail
 refine HC.out.mono ?_
 rintro e W6 ⟨ho6, hcase⟩
 have hgt : getT exB (some 0) = some (exN, 17) := by
  unfold getT
  rw [ex_get]
  show (if T.rightB exN = true then some (exN, 17) else none) = _
  rw [if_pos ex_right]
 rw [hgt] at hcase
 rcases hcase with ⟨ns, p, a, cp, he, rfl, hown, hlen, hins, hrd⟩ | ⟨he, _⟩
 ·
  obtain ⟨rfl, rfl⟩ : exN = ns ∧ 17 = p := by
   have := Option.some.inj he
   exact ⟨congrArg Prod.fst this, congrArg Prod.snd this⟩
  rw [show exN.length = 3 from rfl] at hown ⊢
  have hb6 : Below w.heap.size W5 W6 := ⟨ho6.os, ho6.tape, ho6.output, ho6.size, fun j hj => ho6.block j (by have := H5.out.2.2.1.size; omega) (by have := H5.out.2.2.2; have := H4.out.2.2.size; omega) (by simp)⟩
  have hs6 : W.Src W6 kb 0 exB := fun j hj => (onlyCell ho6 H5.out.2.1 (by have := H5.out.2.2.2; have := H4.out.2.1; omega)).trans (H5.out.1 j hj)
  have hb7 : Below W6.heap.size W6 (W6.alloc (.cells #[.slice a 3 cp] 24)) := (Below.refl _ _).alloc (Nat.le_refl _) _
  have hl7 := Lies.new W6 #[.slice a 3 cp] 24
  have hs7 := src_below hs6 hb7 (Nat.lt_of_lt_of_le H5.out.2.1 ho6.size)
  have ht7 : T.TAt (W6.alloc (.cells #[.slice a 3 cp] 24)) a exN := ((hown.tat (by decide) (by decide)).1).below hb7 (Nat.le_refl _)
  have hbw7 := (H5.out.2.2.1.trans hb6).trans (hb7.mono (H5.out.2.2.1.trans hb6).size)
  obtain ⟨W7, HW7⟩ : ∃ W7, W6.alloc (.cells #[.slice a 3 cp] 24) = W7 := ⟨_, rfl⟩
  rw [HW7] at hb7 hl7 hs7 ht7 hbw7
  obtain ⟨q, hq⟩ : ∃ q, q = W6.heap.size := ⟨_, rfl⟩
  rw [← hq] at hl7
  have HS : Hid (∀ V, Below W7.heap.size W7 V → V.cell? ⟨q, 0, none⟩ = some (.slice a 3 cp) ∧ (convert 54 9 (.slice (some ⟨kb, 0, none⟩) 17 c)).run Tryz.prog V = .ok (.string ⟨#[4, 0, 2, 1, 0, 0, 0, 0, 0, 0, 0, 1, 2, 0, 2, 97, 98]⟩) V) := Lib.hid fun V hV => ⟨(hl7.below hV hl7.lt).cell 0 rfl, str_ex (src_below hs7 hV (Nat.lt_of_lt_of_le (Nat.lt_of_lt_of_le H5.out.2.1 ho6.size) hb7.size))⟩
  have K1 : Hid (∀ V, Below W7.heap.size W7 V → Calls Tryz.prog 48 #[] V fun e w' => ∃ v, e = .returned v ∧ ∃ gx, v = .agg #[.slice (some ⟨gx, 0, none⟩) 3 3] ∧ T.TAt w' (some ⟨gx, 0, none⟩) exN ∧ Below V.heap.size V w') := Lib.hid fun V hV => (list_any V).mono fun e w' k => by
   obtain ⟨gx, rfl, h1, _, _, h2⟩ := k
   exact ⟨_, rfl, gx, rfl, h1, h2⟩
  have K2 : Hid (∀ V gx, Below W7.heap.size W7 V → T.TAt V (some ⟨gx, 0, none⟩) exN → Calls Tryz.prog 50 #[.agg #[.slice a 3 cp], .agg #[.slice (some ⟨gx, 0, none⟩) 3 3]] V fun e w' => e = .returned (.bool true) ∧ Below V.heap.size V w') := Lib.hid fun V gx hV hx => by
   have k := T.sameTerm_any V a (some ⟨gx, 0, none⟩) cp 3 exN exN (ht7.below hV (Nat.le_refl _)) hx
   rw [ex_same] at k
   exact k
  have K3 : Hid (∀ V, Calls Tryz.prog 19 #[.agg (otC exO)] V fun e w' => e = .returned (.int .i64 44) ∧ Below V.heap.size V w') := Lib.hid fun V => by
   have k := long_any V exO (ex_ok V) (fun x hx => by cases hx) (by decide)
   rw [ex_long] at k
   exact k
  obtain ⟨ov, hov⟩ : ∃ o, o = otC exO := ⟨_, rfl⟩
  rw [← hov] at K3
  have hbld : (Tryz.zeroCells35.setIfInBounds 33 (.int .i64 5)).setIfInBounds 34 (.slice none 0 0) = ov := by rw [hov]; kernel_rfl
  have HN := Lib.hid (And.intro hbw7 (show 0 < W7.heap.size by have := hl7.lt; omega))
  clear hb6 hs6 hb7 hl7 hs7 ht7 hbw7 ho6 hown hlen hins hrd he hov HC
  go_upto_region 5 with fail
  rw [← hq]
  clear HW7 hq
  refine wp_region_held (S := Below W7.heap.size W7) (by kernel_rfl) ?_
  change wpAnyH _ _ _ _ _ 19 _ _ (World.drew W7)
  have hcur : Below W7.heap.size W7 W7.drew := (Below.refl _ _).drew
  refine tk 0 (.int .i64 0) 17 rfl rfl hcur ?_
  refine tk 1 (.bool true) 18 rfl rfl hcur ?_
  refine tk 2 (.bool true) 19 rfl rfl hcur ?_
  refine tk 3 (.slice (some ⟨kb, 0, none⟩) 17 c) 20 rfl rfl hcur ?_
  refine tk 4 (.string ⟨#[4, 0, 2, 1, 0, 0, 0, 0, 0, 0, 0, 1, 2, 0, 2, 97, 98]⟩) 21 rfl rfl hcur ?_ (by intro w' hS'; have x0 := (HS.out w' hS').2; unfold execOp; simp [go_sem, x0])
  refine tk 5 (.bool true) 22 rfl rfl hcur ?_
  refine tk 6 (.bool true) 23 rfl rfl hcur ?_
  refine tk 7 (.bool true) 24 rfl rfl hcur ?_
  refine tk 8 (.agg #[.slice a 3 cp]) 25 rfl rfl hcur ?_ (by intro w' hS'; have x0 := (HS.out w' hS').1; unfold execOp; simp [go_sem, x0])
  generalize W7.drew = V0 at hcur ⊢
  refine held_one (i := 9) (by kernel_rfl) _ rfl (wpOp_callG rfl (by rfl) 26 rfl 48 #[] (by unfold execOp; simp [go_sem]) (fun v w' => ∃ gx, v = .agg #[.slice (some ⟨gx, 0, none⟩) 3 3] ∧ T.TAt w' (some ⟨gx, 0, none⟩) exN ∧ Below V0.heap.size V0 w') (K1.out _ hcur) ?_)
  rintro _ U1 ⟨gx, rfl, htx, hn⟩
  have hcur := hcur.trans (hn.mono hcur.size)
  clear hn
  refine ⟨hcur, ?_⟩
  simp only [Act.put, List.setIfInBounds_toArray, List.set_cons_zero, List.set_cons_succ]
  refine held_one (i := 10) (by kernel_rfl) _ rfl (wpOp_callG rfl (by rfl) 27 rfl 50 #[.agg #[.slice a 3 cp], .agg #[.slice (some ⟨gx, 0, none⟩) 3 3]] (by unfold execOp; simp [go_sem]) _ (ret_gro (K2.out _ gx hcur htx)) ?_)
  rintro _ U2 ⟨rfl, hn⟩
  have hcur := hcur.trans (hn.mono hcur.size)
  clear hn htx
  refine ⟨hcur, ?_⟩
  simp only [Act.put, List.setIfInBounds_toArray, List.set_cons_zero, List.set_cons_succ]
  refine tk 11 (.bool true) 28 rfl rfl hcur ?_
  refine tk 12 (.bool true) 29 rfl rfl hcur ?_
  refine tk 13 (.agg #[.int .i64 5, .slice none 0 0]) 30 rfl rfl hcur ?_
  refine tk 14 (.agg ov) 31 rfl rfl hcur ?_ (by intro w' hS'; unfold execOp; simp [go_sem, hbld])
  refine held_one (i := 15) (by kernel_rfl) _ rfl (wpOp_callG rfl (by rfl) 32 rfl 19 #[.agg ov] (by unfold execOp; simp [go_sem]) _ (ret_gro (K3.out _)) ?_)
  rintro _ U3 ⟨rfl, hn⟩
  have hcur := hcur.trans (hn.mono hcur.size)
  clear hn
  refine ⟨hcur, ?_⟩
  simp only [Act.put, List.setIfInBounds_toArray, List.set_cons_zero, List.set_cons_succ]
  refine tk 16 (.bool true) 33 rfl rfl hcur ?_
  refine tk 17 (.bool true) 34 rfl rfl hcur ?_
  refine tk 18 (.bool true) 0 rfl rfl hcur ?_
  refine held_done (by kernel_rfl) ?_
  have HF := Lib.hid (And.intro (HN.out.1.trans (hcur.mono HN.out.1.size)) (Nat.lt_of_lt_of_le HN.out.2 hcur.size))
  clear hcur hbld
  go_wp2_with fail
  go_ret
  exact ⟨rfl, HF.out.1, HF.out.2⟩
 ·
  cases he
end Go.Proofs.YtilbbemdinpjcaaGreat.P
namespace Go.Proofs.YtilbbemdinpjcaaGreat.P
set_option maxRecDepth 100000
open Go.RowKit Go.Sort
theorem wpList_load_midG {P : Program} {ops : Array Oper} {rest : List Oper} {o : Oper} {a : Act} {w : World} {Q : Exit → Act → World → Prop} (hw : Region.wanted o (yielded ops a.tmps) = true) (ty : TypeId) (x : Operand) (ho : o.op = .load ty x)
  (b off : Nat) (hx : a.eval x = .pointer (some ⟨b, off, none⟩)) (cs : List Value) (d : TypeDesc) (hc : w.rangeAt b off cs)
  (hu : P.underlying ty = some d) (hd : d.isRow = true) (hi : (P.info? ty).map (·.size) = some cs.length)
  (h : wpList P ops Q rest (a.put o.dst (.agg cs.toArray)) w) : wpList P ops Q (o :: rest) a w := by
 unfold wpList
 rw [if_pos hw]
 exact .inl (wp_load_mid ty x ho b off hx cs d hc hu hd hi h)
theorem sameN_self (xs : List T.Nd) : T.sameN xs xs = true := T.sameN_true rfl fun j h1 h2 => by simp [T.eqN]
theorem keyed_addr : Tryz.prog.keyTypeAt 5 32 = true := by kernel_rfl
theorem formed_addr (b : Bool) (p : List UInt8) (h : p.length = 32) : (Value.agg (adC b p)).formed Tryz.prog 32 = true := by
 obtain ⟨a0, a1, a2, a3, a4, a5, a6, a7, a8, a9, a10, a11, a12, a13, a14, a15, a16, a17, a18, a19, a20, a21, a22, a23, a24, a25, a26, a27, a28, a29, a30, a31, rfl⟩ := list32 p h
 kernel_rfl
theorem lit_bool (d : Nat) (x : Bool) : Tryz.prog.keyLits (d + 1) 4 [.bool x] = some [Lit.bool x] := by
 unfold Program.keyLits
 simp [Tryz.underlying4]
theorem lits_addr (d : Nat) (b : Bool) (p : List UInt8) (h : p.length = 32) : Tryz.prog.keyLits (d + 3) 32 (adC b p).toList = some ([Lit.bool b] ++ (p.map fun b => Lit.int .u8 b.toNat)) := by
 have hl : (B8 p).toList.length = 32 := by rw [Array.length_toList, B8_size, h]
 have e : (adC b p).toList = [.bool b] ++ (B8 p).toList := by simp [adC]
 rw [e]
 unfold Program.keyLits
 simp only [Tryz.underlying32, pc_addr, List.length_append, hl, List.length_cons, List.length_nil]
 rw [if_pos ⟨trivial, by kernel_rfl⟩]
 simp only [List.mapM_cons, List.mapM_nil, dc26, pc_bool, List.drop_zero, List.take_left' (show ([Value.bool b] : List Value).length = 1 from rfl), List.drop_left' (show ([Value.bool b] : List Value).length = 1 from rfl)]
 rw [List.take_of_length_le (by omega), litsH d p h]
 simp [lit_bool (d + 1) b]
theorem eq_addr (w : World) (b : Bool) (p : List UInt8) (h : p.length = 32) : (binOp .eql 32 (.agg (adC b p)) (.agg (adC b p))).run Tryz.prog w = .ok (.bool true) w := by
 obtain ⟨r, hr, hi⟩ := run_equalIn_deep 9995 5 32 keyed_addr w 5 5 (.agg (adC b p)) (.agg (adC b p)) _ _ (formed_addr b p h) (formed_addr b p h) (lits_addr 2 b p h) (lits_addr 2 b p h)
 have e : r = true := hi.2 rfl
 subst e
 have hr2 : (Op.equalIn 10000 32 (.agg (adC b p)) (.agg (adC b p))).run Tryz.prog w = .ok true w := hr
 have he : (Op.equal 32 (.agg (adC b p)) (.agg (adC b p))).run Tryz.prog w = .ok true w := hr2
 simp [binOp, go_sem, he]
theorem eq_hashes (w : World) (p : List UInt8) (h : p.length = 32) : (binOp .eql 30 (.agg (B8 p)) (.agg (B8 p))).run Tryz.prog w = .ok (.bool true) w := by
 have he : (Op.equal 30 (.agg (B8 p)) (.agg (B8 p))).run Tryz.prog w = .ok true w := by
  have := eq_hash w p p h h
  rw [show decide (p = p) = true by simp] at this
  exact this
 simp [binOp, go_sem, he]
theorem otC_ad (o : Ot) (j : Nat) (v : Value) (h : (adC o.prog o.ah).toList[j]? = some v) : (otC o)[j]? = some v := by
 have hj := (List.getElem?_eq_some_iff.1 h).1
 rw [Array.getElem?_toList] at h
 rw [Array.length_toList] at hj
 unfold otC
 rw [Array.getElem?_append_left (by simp only [Array.size_append]; unfold adC at hj; simp only [Array.size_append] at hj; omega), Array.getElem?_append_left (by simp only [Array.size_append]; unfold adC at hj; simp only [Array.size_append] at hj; omega), Array.getElem?_append_left (by unfold adC at hj; exact hj)]
 exact h
theorem info_hash : (Tryz.prog.info? 30).map (·.size) = some 32 := by kernel_rfl
theorem sameOutput_yes (w : World) (a b : Ot) (ha : OtOk w a) (hb : OtOk w b) (heq : outV a = outV b) :
  Calls Tryz.prog 82 #[.agg (otC a), .agg (otC b)] w fun e w' => e = .returned (.bool true) ∧ Below w.heap.size w w' := by
 obtain ⟨b1, b2, b3, b4⟩ := box_two w (otC a) (otC b) 35 35
 obtain ⟨W0, HW⟩ : ∃ W0, (w.alloc (.cells (otC a) 35)).alloc (.cells (otC b) 35) = W0 := ⟨_, rfl⟩
 rw [HW] at b1 b2 b3 b4
 have hA := lies_at b1 ha.ah ha.dh
 have hB := lies_at b2 hb.ah hb.dh
 have e1 : b.prog = a.prog := (congrArg OutV.prog heq).symm
 have e2 : b.ah = a.ah := (congrArg OutV.ah heq).symm
 have e3 : b.v.coin = a.v.coin := (congrArg OutV.coin heq).symm
 have e4 : b.v.l = a.v.l := (congrArg OutV.l heq).symm
 have e5 : b.kind = a.kind := (congrArg OutV.kind heq).symm
 have e6 : b.dh = a.dh := (congrArg OutV.dh heq).symm
 have e7 : b.ns = a.ns := (congrArg OutV.ns heq).symm
 obtain ⟨ad, had⟩ : ∃ x, x = adC a.prog a.ah := ⟨_, rfl⟩
 obtain ⟨hh, hhh⟩ : ∃ x, x = B8 a.dh := ⟨_, rfl⟩
 have hadl : ad.toList.length = 33 := by rw [had, Array.length_toList]; simp [adC, B8_size, ha.ah]
 have hhl : hh.toList.length = 32 := by rw [hhh, Array.length_toList, B8_size, ha.dh]
 have r1 : W0.rangeAt w.heap.size 0 ad.toList := fun j v hv => by rw [Nat.zero_add]; exact b1.cell j (otC_ad a j v (by rw [← had]; exact hv))
 have r2 : W0.rangeAt (w.heap.size + 1) 0 ad.toList := fun j v hv => by rw [Nat.zero_add]; exact b2.cell j (otC_ad b j v (by rw [e1, e2, ← had]; exact hv))
 have hQ1 : ∀ V, (binOp .eql 32 (.agg ad) (.agg ad)).run Tryz.prog V = .ok (.bool true) V := fun V => by rw [had]; exact eq_addr V _ _ ha.ah
 have hQ2 : ∀ V, (binOp .eql 30 (.agg hh) (.agg hh)).run Tryz.prog V = .ok (.bool true) V := fun V => by rw [hhh]; exact eq_hashes V _ ha.dh
 obtain ⟨x, hx⟩ : ∃ x, x = a.v.coin := ⟨_, rfl⟩
 obtain ⟨kd, hkd⟩ : ∃ x, x = a.kind := ⟨_, rfl⟩
 obtain ⟨n, hn⟩ : ∃ n, n = a.v.l.length := ⟨_, rfl⟩
 obtain ⟨m, hm⟩ : ∃ n, n = a.ns.length := ⟨_, rfl⟩
 obtain ⟨pa, hpa⟩ : ∃ x, x = a.v.pa := ⟨_, rfl⟩
 obtain ⟨pb, hpb⟩ : ∃ x, x = b.v.pa := ⟨_, rfl⟩
 obtain ⟨ca, hca⟩ : ∃ x, x = a.v.c := ⟨_, rfl⟩
 obtain ⟨cb, hcb⟩ : ∃ x, x = b.v.c := ⟨_, rfl⟩
 obtain ⟨ta, hta⟩ : ∃ x, x = a.tp := ⟨_, rfl⟩
 obtain ⟨tb, htb⟩ : ∃ x, x = b.tp := ⟨_, rfl⟩
 obtain ⟨ua, hua⟩ : ∃ x, x = a.tc := ⟨_, rfl⟩
 obtain ⟨ub, hub⟩ : ∃ x, x = b.tc := ⟨_, rfl⟩
 have c1 : ∀ V, Below W0.heap.size W0 V → V.cell? ⟨w.heap.size, 33, none⟩ = some (.int .i64 x) ∧ V.cell? ⟨w.heap.size, 34, none⟩ = some (.slice pa n ca) ∧ V.cell? ⟨w.heap.size, 35, none⟩ = some (.int .i64 kd) ∧ V.rangeAt w.heap.size 36 hh.toList ∧ V.cell? ⟨w.heap.size, 68, none⟩ = some (.slice ta m ua) := fun V hV => by
  have h := lies_at (b1.below hV b1.lt) ha.ah ha.dh
  rw [hx, hkd, hn, hm, hpa, hca, hta, hua, hhh]
  exact ⟨by simpa using h.coin, by simpa using h.assets, by simpa using h.kind, by simpa using h.dh, by simpa using h.term⟩
 have c2 : ∀ V, Below W0.heap.size W0 V → V.cell? ⟨w.heap.size + 1, 33, none⟩ = some (.int .i64 x) ∧ V.cell? ⟨w.heap.size + 1, 34, none⟩ = some (.slice pb n cb) ∧ V.cell? ⟨w.heap.size + 1, 35, none⟩ = some (.int .i64 kd) ∧ V.rangeAt (w.heap.size + 1) 36 hh.toList ∧ V.cell? ⟨w.heap.size + 1, 68, none⟩ = some (.slice tb m ub) := fun V hV => by
  have h := lies_at (b2.below hV b2.lt) hb.ah hb.dh
  rw [hx, hkd, hn, hm, hpb, hcb, htb, hub, hhh, ← e3, ← e4, ← e5, ← e6, ← e7]
  exact ⟨by simpa using h.coin, by simpa using h.assets, by simpa using h.kind, by simpa using h.dh, by simpa using h.term⟩
 have K1 : Hid (∀ V, Below W0.heap.size W0 V → Calls Tryz.prog 80 #[.agg #[.int .i64 x, .slice pa n ca], .agg #[.int .i64 x, .slice pb n cb]] V fun e w' => e = .returned (.bool true) ∧ Below V.heap.size V w') := Lib.hid fun V hV => by
  have h1 := ha.v.2.2.below (b3.trans (hV.mono b3.size)) (Nat.le_refl _)
  have h2 := hb.v.2.2.below (b3.trans (hV.mono b3.size)) (Nat.le_refl _)
  rw [e4] at h2
  have h := sameV_any V x x pa pb a.v.l a.v.l ca cb (by rw [hpa]; exact h1) (by rw [hpb]; exact h2)
  rw [show sameB x x a.v.l a.v.l = true by simp [sameB], ← hn] at h
  exact h
 have K2 : Hid (∀ V, Below W0.heap.size W0 V → Calls Tryz.prog 50 #[.agg #[.slice ta m ua], .agg #[.slice tb m ub]] V fun e w' => e = .returned (.bool true) ∧ Below V.heap.size V w') := Lib.hid fun V hV => by
  have h1 := ha.t.below (b3.trans (hV.mono b3.size)) (Nat.le_refl _)
  have h2 := hb.t.below (b3.trans (hV.mono b3.size)) (Nat.le_refl _)
  rw [e7] at h2
  have h := T.sameTerm_any V ta tb ua ub a.ns a.ns (by rw [hta]; exact h1) (by rw [htb]; exact h2)
  rw [sameN_self, ← hm] at h
  exact h
 have HC := Lib.hid (And.intro c1 c2)
 have HB := Lib.hid b3
 have HR := Lib.hid (And.intro r1 r2)
 have HI1 := Lib.hid (show (Tryz.prog.info? 32).map (·.size) = some ad.toList.length by rw [hadl]; exact info_address)
 have HI2 := Lib.hid (show (Tryz.prog.info? 30).map (·.size) = some hh.toList.length by rw [hhl]; exact info_hash)
 obtain ⟨va, hva⟩ : ∃ x, x = otC a := ⟨_, rfl⟩
 obtain ⟨vb, hvb⟩ : ∃ x, x = otC b := ⟨_, rfl⟩
 rw [← hva, ← hvb] at HW ⊢
 clear ha hb heq b1 b2 b4 hA hB e1 e2 e3 e4 e5 e6 e7 had hhh hadl hhl r1 r2 hx hkd hn hm hpa hpb hca hcb hta htb hua hub hva hvb b3
 obtain ⟨d1, d2, -, -, -⟩ := c1 W0 (Below.refl _ _)
 obtain ⟨f1, f2, -, -, -⟩ := c2 W0 (Below.refl _ _)
 clear c1 c2
 go_enter Tryz.func82, Tryz.ntmps82
 obtain ⟨p, hp⟩ : ∃ p, p = w.heap.size := ⟨_, rfl⟩
 obtain ⟨q, hq⟩ : ∃ q, q = w.heap.size + 1 := ⟨_, rfl⟩
 have HP := Lib.hid (And.intro hp hq)
 go_upto_region 1 with fail
 rw [← hq, ← hp]
 rw [← hq] at f1 f2
 rw [← hp] at d1 d2
 rw [← hq, ← hp] at HR HC
 clear HW hp hq
 go_wp2_with (first
  | (refine wpList_load_midG (by rfl) 32 _ rfl p 0 rfl ad.toList _ HR.out.1 Tryz.underlying32 rfl HI1.out ?_)
  | (refine wpList_load_midG (by rfl) 32 _ rfl q 0 rfl ad.toList _ HR.out.2 Tryz.underlying32 rfl HI1.out ?_))
 refine (K1.out W0 (Below.refl _ _)).mono ?_
 rintro e U1 ⟨rfl, hb1⟩
 obtain ⟨-, -, g1, hr1, g2⟩ := HC.out.1 U1 hb1
 obtain ⟨-, -, g3, hr2, g4⟩ := HC.out.2 U1 hb1
 have HR2 := Lib.hid (And.intro hr1 hr2)
 have H1 := Lib.hid hb1
 clear hb1 hr1 hr2 d1 d2 f1 f2
 go_wp2_with (first
  | (refine wpList_load_midG (by rfl) 30 _ rfl p 36 rfl hh.toList _ HR2.out.1 Tryz.underlying30 rfl HI2.out ?_)
  | (refine wpList_load_midG (by rfl) 30 _ rfl q 36 rfl hh.toList _ HR2.out.2 Tryz.underlying30 rfl HI2.out ?_))
 refine (K2.out U1 H1.out).mono ?_
 rintro e U2 ⟨rfl, hb2⟩
 have H2 := Lib.hid (HB.out.trans ((H1.out.trans (hb2.mono H1.out.size)).mono HB.out.size))
 clear hb2
 go_wp2_with fail
 go_ret
 exact ⟨rfl, H2.out⟩
end Go.Proofs.YtilbbemdinpjcaaGreat.P
