/-
  pack: awake: the chapter's examples hold in every world, and turn nothing that is there.
-/
import Derived.Test.YtilbbemdinpjcaaGreatJQe
import Derived.Test.YtilbbemdinpjcaaGreatJWPutIn
namespace Go.Proofs.YtilbbemdinpjcaaGreat.P
set_option maxRecDepth 100000
open Go.RowKit Go.Sort

theorem nat_lk {g : Nat} {w w' : World} {v v' : Value} {a : Option Addr} {q : Nat} {ns : List T.Nd} (ha : a = some ⟨q, 0, none⟩) (h : T.TAt w a ns) (k : Lk g w v w' v') (h1 : q ≠ g) (h2 : v.ownBlock ≠ some q) : T.TAt w' a ns :=
  ⟨fun h0 => by
    obtain ⟨gx, off, e, hn⟩ := h.1 h0
    have hq : gx = q := by rw [ha] at e; exact (congrArg (fun x : Option Addr => (x.map (·.block)).getD 0) e).symm
    subst hq
    exact ⟨gx, off, e, Nat.lt_of_lt_of_le hn.1 k.1.size, fun j hj i v hv => (k.cell hn.1 h1 h2).trans (hn.2 j hj i v hv)⟩, h.2⟩
theorem str_ex {V : World} {b c : Nat} (h : W.Src V b 0 exB) : (convert 54 9 (.slice (some ⟨b, 0, none⟩) 17 c)).run Tryz.prog V = .ok (.string ⟨#[4, 0, 2, 1, 0, 0, 0, 0, 0, 0, 0, 1, 2, 0, 2, 97, 98]⟩) V := W.str_of_src (c := c) h
theorem src_below {V V' : World} {b B : Nat} {l : List UInt8} (h : W.Src V b 0 l) (hb : Below B V V') (hl : b < B) : W.Src V' b 0 l := fun j hj => (hb.cell (p := ⟨b, 0 + j, none⟩) hl).trans (h j hj)
theorem ex_same : T.sameN exN exN = true := by decide +kernel
set_option maxHeartbeats 8000000 in
theorem awakeP_any (w : World) : Calls Tryz.prog 10 #[] w fun e w' => e = .returned (.bool true) ∧ Below w.heap.size w w' := by
  go_enter Tryz.func10, Tryz.ntmps10
  go_wp2_with fail
  refine (newW_any w).mono ?_
  rintro e W1 ⟨rfl, ⟨v1, hw1⟩, hb1⟩
  obtain ⟨g, hg⟩ : ∃ g, g = w.heap.size := ⟨_, rfl⟩
  have HG := Lib.hid hg
  have HB1 := Lib.hid hb1
  rw [← hg] at hw1 ⊢
  have H1 := Lib.hid hw1
  clear hw1 hb1 hg
  go_wp2_with fail
  refine (list_any W1).mono ?_
  rintro e W2 ⟨gx, rfl, htat, hgx, hgl, hb2⟩
  have hw2 := H1.out.belowW hb2
  have hxg : gx ≠ g := by have := H1.out.lt; omega
  have hxo : v1.ownBlock ≠ some gx := fun e => by have := (H1.out.own gx e).2; omega
  have hst : Stays g W2 v1 fun V => T.TAt V (some ⟨gx, 0, none⟩) exN := fun V _ hl => nat_lk rfl htat hl hxg hxo
  have hpt := putTerm_any W2 (some ⟨gx, 0, none⟩) 3 exN hst (by decide) (by
    intro x hx
    simp only [exN, List.mem_cons, List.mem_nil_iff, or_false] at hx
    rcases hx with rfl | rfl | rfl
    all_goals exact ⟨⟨by decide, by decide⟩, ⟨by decide, by decide⟩, by decide, by decide, ⟨by decide, by decide⟩⟩) hw2 (by decide)
  rw [if_pos ex_right, ex_put] at hpt
  have HP := Lib.hid hpt
  have H2 := Lib.hid (And.intro hw2 (HB1.out.trans (hb2.mono HB1.out.size)))
  clear htat hgx hgl hb2 hw2 hst hpt hxg hxo
  go_wp2_with fail
  refine HP.out.mono ?_
  rintro e W3 ⟨rfl, v3, hw3, hk3⟩
  have hb3 : Below g W2 W3 := hk3.low (Nat.le_refl _) (fun x e => (H2.out.1.own x e).1) (by have := H2.out.1.lt; omega)
  have H3 := Lib.hid (And.intro hw3 (H2.out.2.trans (show Below w.heap.size W2 W3 by rw [← HG.out]; exact hb3)))
  clear hw3 hk3 hb3 HP
  go_wp2_with fail
  refine (bytesW_any W3 H3.out.1 (by decide)).mono ?_
  rintro e W4 ⟨u, er, rfl, her, hown, hb4⟩
  rw [show (if (some exB : Option (List UInt8)).isNone = true then (2 : Int) else 0) = 0 from rfl] at her
  subst her
  rw [show bs (some exB) = exB from rfl] at hown
  obtain ⟨kb, c, rfl⟩ : ∃ kb c, u = .slice (some ⟨kb, 0, none⟩) 17 c := by
    rcases hown.2 with ⟨-, h2⟩ | ⟨kb, cap, cur, rfl, _⟩
    · cases h2
    · exact ⟨kb, cap, rfl⟩
  have hsrc := W.own_src hown
  have hkl : kb < W4.heap.size := W.own_lt hown rfl
  have H4 := Lib.hid (And.intro hsrc (And.intro hkl (H3.out.2.trans (hb4.mono H3.out.2.size))))
  clear hown hsrc hkl hb4
  go_wp2_with fail
  refine (W.newreader_some W4 kb 0 c exB H4.out.1 H4.out.2.1 (by decide) (by decide)).mono ?_
  rintro e W5 ⟨g5, k5, c5, rfl, hg5, hk5, hr5, hb5⟩
  have hs5 := src_below H4.out.1 hb5 H4.out.2.1
  have HC := Lib.hid (getTerm_any W5 g5 k5 exB c5 (some 0) ⟨Nat.zero_le _, hr5⟩)
  have H5 := Lib.hid (And.intro hs5 (And.intro (Nat.lt_of_lt_of_le H4.out.2.1 hb5.size) (And.intro (H4.out.2.2.trans (hb5.mono H4.out.2.2.size)) hg5)))
  clear hs5 hr5 hb5 hg5 hk5
  go_wp2_with fail
  refine HC.out.mono ?_
  rintro e W6 ⟨ho6, hcase⟩
  have hgt : getT exB (some 0) = some (exN, 17) := by
    unfold getT
    rw [ex_get]
    show (if T.rightB exN = true then some (exN, 17) else none) = _
    rw [if_pos ex_right]
  rw [hgt] at hcase
  rcases hcase with ⟨ns, p, a, cp, he, rfl, hown, hlen, hins, hrd⟩ | ⟨he, _⟩
  · obtain ⟨rfl, rfl⟩ : exN = ns ∧ 17 = p := by
      have := Option.some.inj he
      exact ⟨congrArg Prod.fst this, congrArg Prod.snd this⟩
    rw [show exN.length = 3 from rfl] at hown ⊢
    have hb6 : Below w.heap.size W5 W6 := ⟨ho6.os, ho6.tape, ho6.output, ho6.size, fun j hj => ho6.block j (by have := H5.out.2.2.1.size; omega) (by have := H5.out.2.2.2; have := H4.out.2.2.size; omega) (by simp)⟩
    have hs6 : W.Src W6 kb 0 exB := fun j hj => (onlyCell ho6 H5.out.2.1 (by have := H5.out.2.2.2; have := H4.out.2.1; omega)).trans (H5.out.1 j hj)
    have hb7 : Below W6.heap.size W6 (W6.alloc (.cells #[.slice a 3 cp] 24)) := (Below.refl _ _).alloc (Nat.le_refl _) _
    have hl7 := Lies.new W6 #[.slice a 3 cp] 24
    have hs7 := src_below hs6 hb7 (Nat.lt_of_lt_of_le H5.out.2.1 ho6.size)
    have ht7 : T.TAt (W6.alloc (.cells #[.slice a 3 cp] 24)) a exN := ((hown.tat (by decide) (by decide)).1).below hb7 (Nat.le_refl _)
    have hbw7 := (H5.out.2.2.1.trans hb6).trans (hb7.mono (H5.out.2.2.1.trans hb6).size)
    obtain ⟨W7, HW7⟩ : ∃ W7, W6.alloc (.cells #[.slice a 3 cp] 24) = W7 := ⟨_, rfl⟩
    rw [HW7] at hb7 hl7 hs7 ht7 hbw7
    obtain ⟨q, hq⟩ : ∃ q, q = W6.heap.size := ⟨_, rfl⟩
    rw [← hq] at hl7
    have HS : Hid (∀ V, Below W7.heap.size W7 V → V.cell? ⟨q, 0, none⟩ = some (.slice a 3 cp) ∧ (convert 54 9 (.slice (some ⟨kb, 0, none⟩) 17 c)).run Tryz.prog V = .ok (.string ⟨#[4, 0, 2, 1, 0, 0, 0, 0, 0, 0, 0, 1, 2, 0, 2, 97, 98]⟩) V) := Lib.hid fun V hV => ⟨(hl7.below hV hl7.lt).cell 0 rfl, str_ex (src_below hs7 hV (Nat.lt_of_lt_of_le (Nat.lt_of_lt_of_le H5.out.2.1 ho6.size) hb7.size))⟩
    have K1 : Hid (∀ V, Below W7.heap.size W7 V → Calls Tryz.prog 48 #[] V fun e w' => ∃ v, e = .returned v ∧ ∃ gx, v = .agg #[.slice (some ⟨gx, 0, none⟩) 3 3] ∧ T.TAt w' (some ⟨gx, 0, none⟩) exN ∧ Below V.heap.size V w') := Lib.hid fun V hV => (list_any V).mono fun e w' k => by
      obtain ⟨gx, rfl, h1, _, _, h2⟩ := k
      exact ⟨_, rfl, gx, rfl, h1, h2⟩
    have K2 : Hid (∀ V gx, Below W7.heap.size W7 V → T.TAt V (some ⟨gx, 0, none⟩) exN → Calls Tryz.prog 50 #[.agg #[.slice a 3 cp], .agg #[.slice (some ⟨gx, 0, none⟩) 3 3]] V fun e w' => e = .returned (.bool true) ∧ Below V.heap.size V w') := Lib.hid fun V gx hV hx => by
      have k := T.sameTerm_any V a (some ⟨gx, 0, none⟩) cp 3 exN exN (ht7.below hV (Nat.le_refl _)) hx
      rw [ex_same] at k
      exact k
    have K3 : Hid (∀ V, Calls Tryz.prog 19 #[.agg (otC exO)] V fun e w' => e = .returned (.int .i64 44) ∧ Below V.heap.size V w') := Lib.hid fun V => by
      have k := long_any V exO (ex_ok V) (fun x hx => by cases hx) (by decide)
      rw [ex_long] at k
      exact k
    obtain ⟨ov, hov⟩ : ∃ o, o = otC exO := ⟨_, rfl⟩
    rw [← hov] at K3
    have hbld : (Tryz.zeroCells35.setIfInBounds 33 (.int .i64 5)).setIfInBounds 34 (.slice none 0 0) = ov := by rw [hov]; kernel_rfl
    have HN := Lib.hid hbw7
    clear hb6 hs6 hb7 hl7 hs7 ht7 hbw7 ho6 hown hlen hins hrd he hov HC
    go_upto_region 5 with fail
    rw [← hq]
    clear HW7 hq
    refine wp_region_held (S := Below W7.heap.size W7) (by kernel_rfl) ?_
    change wpAnyH _ _ _ _ _ 19 _ _ (World.drew W7)
    have hcur : Below W7.heap.size W7 W7.drew := (Below.refl _ _).drew
    refine tk 0 (.int .i64 0) 17 rfl rfl hcur ?_
    refine tk 1 (.bool true) 18 rfl rfl hcur ?_
    refine tk 2 (.bool true) 19 rfl rfl hcur ?_
    refine tk 3 (.slice (some ⟨kb, 0, none⟩) 17 c) 20 rfl rfl hcur ?_
    refine tk 4 (.string ⟨#[4, 0, 2, 1, 0, 0, 0, 0, 0, 0, 0, 1, 2, 0, 2, 97, 98]⟩) 21 rfl rfl hcur ?_ (by intro w' hS'; have x0 := (HS.out w' hS').2; unfold execOp; simp [go_sem, x0])
    refine tk 5 (.bool true) 22 rfl rfl hcur ?_
    refine tk 6 (.bool true) 23 rfl rfl hcur ?_
    refine tk 7 (.bool true) 24 rfl rfl hcur ?_
    refine tk 8 (.agg #[.slice a 3 cp]) 25 rfl rfl hcur ?_ (by intro w' hS'; have x0 := (HS.out w' hS').1; unfold execOp; simp [go_sem, x0])
    generalize W7.drew = V0 at hcur ⊢
    refine held_one (i := 9) (by kernel_rfl) _ rfl (wpOp_callG rfl (by rfl) 26 rfl 48 #[] (by unfold execOp; simp [go_sem]) (fun v w' => ∃ gx, v = .agg #[.slice (some ⟨gx, 0, none⟩) 3 3] ∧ T.TAt w' (some ⟨gx, 0, none⟩) exN ∧ Below V0.heap.size V0 w') (K1.out _ hcur) ?_)
    rintro _ U1 ⟨gx, rfl, htx, hn⟩
    have hcur := hcur.trans (hn.mono hcur.size)
    clear hn
    refine ⟨hcur, ?_⟩
    simp only [Act.put, List.setIfInBounds_toArray, List.set_cons_zero, List.set_cons_succ]
    refine held_one (i := 10) (by kernel_rfl) _ rfl (wpOp_callG rfl (by rfl) 27 rfl 50 #[.agg #[.slice a 3 cp], .agg #[.slice (some ⟨gx, 0, none⟩) 3 3]] (by unfold execOp; simp [go_sem]) _ (ret_gro (K2.out _ gx hcur htx)) ?_)
    rintro _ U2 ⟨rfl, hn⟩
    have hcur := hcur.trans (hn.mono hcur.size)
    clear hn htx
    refine ⟨hcur, ?_⟩
    simp only [Act.put, List.setIfInBounds_toArray, List.set_cons_zero, List.set_cons_succ]
    refine tk 11 (.bool true) 28 rfl rfl hcur ?_
    refine tk 12 (.bool true) 29 rfl rfl hcur ?_
    refine tk 13 (.agg #[.int .i64 5, .slice none 0 0]) 30 rfl rfl hcur ?_
    refine tk 14 (.agg ov) 31 rfl rfl hcur ?_ (by intro w' hS'; unfold execOp; simp [go_sem, hbld])
    refine held_one (i := 15) (by kernel_rfl) _ rfl (wpOp_callG rfl (by rfl) 32 rfl 19 #[.agg ov] (by unfold execOp; simp [go_sem]) _ (ret_gro (K3.out _)) ?_)
    rintro _ U3 ⟨rfl, hn⟩
    have hcur := hcur.trans (hn.mono hcur.size)
    clear hn
    refine ⟨hcur, ?_⟩
    simp only [Act.put, List.setIfInBounds_toArray, List.set_cons_zero, List.set_cons_succ]
    refine tk 16 (.bool true) 33 rfl rfl hcur ?_
    refine tk 17 (.bool true) 34 rfl rfl hcur ?_
    refine tk 18 (.bool true) 0 rfl rfl hcur ?_
    refine held_done (by kernel_rfl) ?_
    have HF := Lib.hid (HN.out.trans (hcur.mono HN.out.size))
    clear hcur hbld
    go_wp2_with fail
    go_ret
    exact ⟨rfl, HF.out⟩
  · cases he
end Go.Proofs.YtilbbemdinpjcaaGreat.P
