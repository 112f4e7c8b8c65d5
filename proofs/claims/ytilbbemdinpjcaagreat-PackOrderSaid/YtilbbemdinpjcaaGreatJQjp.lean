/-
  PackOrder returns true for any three refs and any entries, and its arguments read as they did. No condition.
-/
import Derived.Test.YtilbbemdinpjcaaGreatJQe
import Derived.Test.YtilbbemdinpjcaaGreatJWWantSt
import Derived.Test.YtilbbemdinpjcaaGreatJTLreals
import Derived.Test.YtilbbemdinpjcaaGreatRows
namespace Go.Proofs.YtilbbemdinpjcaaGreat.P
set_option maxRecDepth 100000
open Go.RowKit Go.Sort

theorem nat_lk {g : Nat} {w w' : World} {v v' : Value} {a : Option Addr} {q : Nat} {ns : List T.Nd} (ha : a = some ⟨q, 0, none⟩) (h : T.TAt w a ns) (k : Lk g w v w' v') (h1 : q ≠ g) (h2 : v.ownBlock ≠ some q) : T.TAt w' a ns :=
  ⟨fun h0 => by
    obtain ⟨gx, off, e, hn⟩ := h.1 h0
    have hq : gx = q := by rw [ha] at e; exact (congrArg (fun x : Option Addr => (x.map (·.block)).getD 0) e).symm
    subst hq
    exact ⟨gx, off, e, Nat.lt_of_lt_of_le hn.1 k.1.size, fun j hj i v hv => (k.cell hn.1 h1 h2).trans (hn.2 j hj i v hv)⟩, h.2⟩
theorem str_ex {V : World} {b c : Nat} (h : W.Src V b 0 exB) : (convert 54 9 (.slice (some ⟨b, 0, none⟩) 17 c)).run Tryz.prog V = .ok (.string ⟨#[4, 0, 2, 1, 0, 0, 0, 0, 0, 0, 0, 1, 2, 0, 2, 97, 98]⟩) V := W.str_of_src (c := c) h
theorem src_below {V V' : World} {b B : Nat} {l : List UInt8} (h : W.Src V b 0 l) (hb : Below B V V') (hl : b < B) : W.Src V' b 0 l := fun j hj => (hb.cell (p := ⟨b, 0 + j, none⟩) hl).trans (h j hj)
theorem ex_same : T.sameN exN exN = true := by decide +kernel
set_option maxHeartbeats 8000000 in
theorem awakeP_any (w : World) : Calls Tryz.prog 10 #[] w fun e w' => e = .returned (.bool true) ∧ Below w.heap.size w w' := by
  go_enter Tryz.func10, Tryz.ntmps10
  go_wp2_with fail
  refine (newW_any w).mono ?_
  rintro e W1 ⟨rfl, ⟨v1, hw1⟩, hb1⟩
  obtain ⟨g, hg⟩ : ∃ g, g = w.heap.size := ⟨_, rfl⟩
  have HG := Lib.hid hg
  have HB1 := Lib.hid hb1
  rw [← hg] at hw1 ⊢
  have H1 := Lib.hid hw1
  clear hw1 hb1 hg
  go_wp2_with fail
  refine (list_any W1).mono ?_
  rintro e W2 ⟨gx, rfl, htat, hgx, hgl, hb2⟩
  have hw2 := H1.out.belowW hb2
  have hxg : gx ≠ g := by have := H1.out.lt; omega
  have hxo : v1.ownBlock ≠ some gx := fun e => by have := (H1.out.own gx e).2; omega
  have hst : Stays g W2 v1 fun V => T.TAt V (some ⟨gx, 0, none⟩) exN := fun V _ hl => nat_lk rfl htat hl hxg hxo
  have hpt := putTerm_any W2 (some ⟨gx, 0, none⟩) 3 exN hst (by decide) (by
    intro x hx
    simp only [exN, List.mem_cons, List.mem_nil_iff, or_false] at hx
    rcases hx with rfl | rfl | rfl
    all_goals exact ⟨⟨by decide, by decide⟩, ⟨by decide, by decide⟩, by decide, by decide, ⟨by decide, by decide⟩⟩) hw2 (by decide)
  rw [if_pos ex_right, ex_put] at hpt
  have HP := Lib.hid hpt
  have H2 := Lib.hid (And.intro hw2 (HB1.out.trans (hb2.mono HB1.out.size)))
  clear htat hgx hgl hb2 hw2 hst hpt hxg hxo
  go_wp2_with fail
  refine HP.out.mono ?_
  rintro e W3 ⟨rfl, v3, hw3, hk3⟩
  have hb3 : Below g W2 W3 := hk3.low (Nat.le_refl _) (fun x e => (H2.out.1.own x e).1) (by have := H2.out.1.lt; omega)
  have H3 := Lib.hid (And.intro hw3 (H2.out.2.trans (show Below w.heap.size W2 W3 by rw [← HG.out]; exact hb3)))
  clear hw3 hk3 hb3 HP
  go_wp2_with fail
  refine (bytesW_any W3 H3.out.1 (by decide)).mono ?_
  rintro e W4 ⟨u, er, rfl, her, hown, hb4⟩
  rw [show (if (some exB : Option (List UInt8)).isNone = true then (2 : Int) else 0) = 0 from rfl] at her
  subst her
  rw [show bs (some exB) = exB from rfl] at hown
  obtain ⟨kb, c, rfl⟩ : ∃ kb c, u = .slice (some ⟨kb, 0, none⟩) 17 c := by
    rcases hown.2 with ⟨-, h2⟩ | ⟨kb, cap, cur, rfl, _⟩
    · cases h2
    · exact ⟨kb, cap, rfl⟩
  have hsrc := W.own_src hown
  have hkl : kb < W4.heap.size := W.own_lt hown rfl
  have H4 := Lib.hid (And.intro hsrc (And.intro hkl (H3.out.2.trans (hb4.mono H3.out.2.size))))
  clear hown hsrc hkl hb4
  go_wp2_with fail
  refine (W.newreader_some W4 kb 0 c exB H4.out.1 H4.out.2.1 (by decide) (by decide)).mono ?_
  rintro e W5 ⟨g5, k5, c5, rfl, hg5, hk5, hr5, hb5⟩
  have hs5 := src_below H4.out.1 hb5 H4.out.2.1
  have HC := Lib.hid (getTerm_any W5 g5 k5 exB c5 (some 0) ⟨Nat.zero_le _, hr5⟩)
  have H5 := Lib.hid (And.intro hs5 (And.intro (Nat.lt_of_lt_of_le H4.out.2.1 hb5.size) (And.intro (H4.out.2.2.trans (hb5.mono H4.out.2.2.size)) hg5)))
  clear hs5 hr5 hb5 hg5 hk5
  go_wp2_with fail
  refine HC.out.mono ?_
  rintro e W6 ⟨ho6, hcase⟩
  have hgt : getT exB (some 0) = some (exN, 17) := by
    unfold getT
    rw [ex_get]
    show (if T.rightB exN = true then some (exN, 17) else none) = _
    rw [if_pos ex_right]
  rw [hgt] at hcase
  rcases hcase with ⟨ns, p, a, cp, he, rfl, hown, hlen, hins, hrd⟩ | ⟨he, _⟩
  · obtain ⟨rfl, rfl⟩ : exN = ns ∧ 17 = p := by
      have := Option.some.inj he
      exact ⟨congrArg Prod.fst this, congrArg Prod.snd this⟩
    rw [show exN.length = 3 from rfl] at hown ⊢
    have hb6 : Below w.heap.size W5 W6 := ⟨ho6.os, ho6.tape, ho6.output, ho6.size, fun j hj => ho6.block j (by have := H5.out.2.2.1.size; omega) (by have := H5.out.2.2.2; have := H4.out.2.2.size; omega) (by simp)⟩
    have hs6 : W.Src W6 kb 0 exB := fun j hj => (onlyCell ho6 H5.out.2.1 (by have := H5.out.2.2.2; have := H4.out.2.1; omega)).trans (H5.out.1 j hj)
    have hb7 : Below W6.heap.size W6 (W6.alloc (.cells #[.slice a 3 cp] 24)) := (Below.refl _ _).alloc (Nat.le_refl _) _
    have hl7 := Lies.new W6 #[.slice a 3 cp] 24
    have hs7 := src_below hs6 hb7 (Nat.lt_of_lt_of_le H5.out.2.1 ho6.size)
    have ht7 : T.TAt (W6.alloc (.cells #[.slice a 3 cp] 24)) a exN := ((hown.tat (by decide) (by decide)).1).below hb7 (Nat.le_refl _)
    have hbw7 := (H5.out.2.2.1.trans hb6).trans (hb7.mono (H5.out.2.2.1.trans hb6).size)
    obtain ⟨W7, HW7⟩ : ∃ W7, W6.alloc (.cells #[.slice a 3 cp] 24) = W7 := ⟨_, rfl⟩
    rw [HW7] at hb7 hl7 hs7 ht7 hbw7
    obtain ⟨q, hq⟩ : ∃ q, q = W6.heap.size := ⟨_, rfl⟩
    rw [← hq] at hl7
    have HS : Hid (∀ V, Below W7.heap.size W7 V → V.cell? ⟨q, 0, none⟩ = some (.slice a 3 cp) ∧ (convert 54 9 (.slice (some ⟨kb, 0, none⟩) 17 c)).run Tryz.prog V = .ok (.string ⟨#[4, 0, 2, 1, 0, 0, 0, 0, 0, 0, 0, 1, 2, 0, 2, 97, 98]⟩) V) := Lib.hid fun V hV => ⟨(hl7.below hV hl7.lt).cell 0 rfl, str_ex (src_below hs7 hV (Nat.lt_of_lt_of_le (Nat.lt_of_lt_of_le H5.out.2.1 ho6.size) hb7.size))⟩
    have K1 : Hid (∀ V, Below W7.heap.size W7 V → Calls Tryz.prog 48 #[] V fun e w' => ∃ v, e = .returned v ∧ ∃ gx, v = .agg #[.slice (some ⟨gx, 0, none⟩) 3 3] ∧ T.TAt w' (some ⟨gx, 0, none⟩) exN ∧ Below V.heap.size V w') := Lib.hid fun V hV => (list_any V).mono fun e w' k => by
      obtain ⟨gx, rfl, h1, _, _, h2⟩ := k
      exact ⟨_, rfl, gx, rfl, h1, h2⟩
    have K2 : Hid (∀ V gx, Below W7.heap.size W7 V → T.TAt V (some ⟨gx, 0, none⟩) exN → Calls Tryz.prog 50 #[.agg #[.slice a 3 cp], .agg #[.slice (some ⟨gx, 0, none⟩) 3 3]] V fun e w' => e = .returned (.bool true) ∧ Below V.heap.size V w') := Lib.hid fun V gx hV hx => by
      have k := T.sameTerm_any V a (some ⟨gx, 0, none⟩) cp 3 exN exN (ht7.below hV (Nat.le_refl _)) hx
      rw [ex_same] at k
      exact k
    have K3 : Hid (∀ V, Calls Tryz.prog 19 #[.agg (otC exO)] V fun e w' => e = .returned (.int .i64 44) ∧ Below V.heap.size V w') := Lib.hid fun V => by
      have k := long_any V exO (ex_ok V) (fun x hx => by cases hx) (by decide)
      rw [ex_long] at k
      exact k
    obtain ⟨ov, hov⟩ : ∃ o, o = otC exO := ⟨_, rfl⟩
    rw [← hov] at K3
    have hbld : (Tryz.zeroCells35.setIfInBounds 33 (.int .i64 5)).setIfInBounds 34 (.slice none 0 0) = ov := by rw [hov]; kernel_rfl
    have HN := Lib.hid hbw7
    clear hb6 hs6 hb7 hl7 hs7 ht7 hbw7 ho6 hown hlen hins hrd he hov HC
    go_upto_region 5 with fail
    rw [← hq]
    clear HW7 hq
    refine wp_region_held (S := Below W7.heap.size W7) (by kernel_rfl) ?_
    change wpAnyH _ _ _ _ _ 19 _ _ (World.drew W7)
    have hcur : Below W7.heap.size W7 W7.drew := (Below.refl _ _).drew
    refine tk 0 (.int .i64 0) 17 rfl rfl hcur ?_
    refine tk 1 (.bool true) 18 rfl rfl hcur ?_
    refine tk 2 (.bool true) 19 rfl rfl hcur ?_
    refine tk 3 (.slice (some ⟨kb, 0, none⟩) 17 c) 20 rfl rfl hcur ?_
    refine tk 4 (.string ⟨#[4, 0, 2, 1, 0, 0, 0, 0, 0, 0, 0, 1, 2, 0, 2, 97, 98]⟩) 21 rfl rfl hcur ?_ (by intro w' hS'; have x0 := (HS.out w' hS').2; unfold execOp; simp [go_sem, x0])
    refine tk 5 (.bool true) 22 rfl rfl hcur ?_
    refine tk 6 (.bool true) 23 rfl rfl hcur ?_
    refine tk 7 (.bool true) 24 rfl rfl hcur ?_
    refine tk 8 (.agg #[.slice a 3 cp]) 25 rfl rfl hcur ?_ (by intro w' hS'; have x0 := (HS.out w' hS').1; unfold execOp; simp [go_sem, x0])
    generalize W7.drew = V0 at hcur ⊢
    refine held_one (i := 9) (by kernel_rfl) _ rfl (wpOp_callG rfl (by rfl) 26 rfl 48 #[] (by unfold execOp; simp [go_sem]) (fun v w' => ∃ gx, v = .agg #[.slice (some ⟨gx, 0, none⟩) 3 3] ∧ T.TAt w' (some ⟨gx, 0, none⟩) exN ∧ Below V0.heap.size V0 w') (K1.out _ hcur) ?_)
    rintro _ U1 ⟨gx, rfl, htx, hn⟩
    have hcur := hcur.trans (hn.mono hcur.size)
    clear hn
    refine ⟨hcur, ?_⟩
    simp only [Act.put, List.setIfInBounds_toArray, List.set_cons_zero, List.set_cons_succ]
    refine held_one (i := 10) (by kernel_rfl) _ rfl (wpOp_callG rfl (by rfl) 27 rfl 50 #[.agg #[.slice a 3 cp], .agg #[.slice (some ⟨gx, 0, none⟩) 3 3]] (by unfold execOp; simp [go_sem]) _ (ret_gro (K2.out _ gx hcur htx)) ?_)
    rintro _ U2 ⟨rfl, hn⟩
    have hcur := hcur.trans (hn.mono hcur.size)
    clear hn htx
    refine ⟨hcur, ?_⟩
    simp only [Act.put, List.setIfInBounds_toArray, List.set_cons_zero, List.set_cons_succ]
    refine tk 11 (.bool true) 28 rfl rfl hcur ?_
    refine tk 12 (.bool true) 29 rfl rfl hcur ?_
    refine tk 13 (.agg #[.int .i64 5, .slice none 0 0]) 30 rfl rfl hcur ?_
    refine tk 14 (.agg ov) 31 rfl rfl hcur ?_ (by intro w' hS'; unfold execOp; simp [go_sem, hbld])
    refine held_one (i := 15) (by kernel_rfl) _ rfl (wpOp_callG rfl (by rfl) 32 rfl 19 #[.agg ov] (by unfold execOp; simp [go_sem]) _ (ret_gro (K3.out _)) ?_)
    rintro _ U3 ⟨rfl, hn⟩
    have hcur := hcur.trans (hn.mono hcur.size)
    clear hn
    refine ⟨hcur, ?_⟩
    simp only [Act.put, List.setIfInBounds_toArray, List.set_cons_zero, List.set_cons_succ]
    refine tk 16 (.bool true) 33 rfl rfl hcur ?_
    refine tk 17 (.bool true) 34 rfl rfl hcur ?_
    refine tk 18 (.bool true) 0 rfl rfl hcur ?_
    refine held_done (by kernel_rfl) ?_
    have HF := Lib.hid (HN.out.trans (hcur.mono HN.out.size))
    clear hcur hbld
    go_wp2_with fail
    go_ret
    exact ⟨rfl, HF.out⟩
  · cases he
end Go.Proofs.YtilbbemdinpjcaaGreat.P
namespace Go.Proofs.YtilbbemdinpjcaaGreat.P
set_option maxRecDepth 100000
open Go.RowKit Go.Sort

theorem wpList_load_rowQ {P : Program} {ops : Array Oper} {rest : List Oper} {o : Oper} {a : Act} {w : World} {Q : Exit → Act → World → Prop} (hw : Region.wanted o (yielded ops a.tmps) = true) (ty : TypeId) (x : Operand) (ho : o.op = .load ty x)
    (g : Nat) (hx : a.eval x = .pointer (some ⟨g, 0, none⟩)) (t : TypeId) (cs : Array Value) (fr : Nat × Nat) (d : TypeDesc) (hg : w.heap[g]? = some (.cells cs t fr))
    (hu : P.underlying ty = some d) (hd : (match d with | .struct _ | .array _ _ => true | _ => false) = true) (hi : (P.info? ty).map (·.size) = some cs.size)
    (h : wpList P ops Q rest (a.put o.dst (.agg cs)) w) : wpList P ops Q (o :: rest) a w := by
  unfold wpList
  rw [if_pos hw]
  exact .inl (wp_load_row ty x ho g hx t cs fr d hg hu hd hi h)
theorem three_refs (w : World) (A C D : Array Value) (t : TypeId) : (Lies (((w.alloc (.cells A t)).alloc (.cells C t)).alloc (.cells D t)) w.heap.size A t ∧ Lies (((w.alloc (.cells A t)).alloc (.cells C t)).alloc (.cells D t)) (w.heap.size + 1) C t ∧ Lies (((w.alloc (.cells A t)).alloc (.cells C t)).alloc (.cells D t)) (w.heap.size + 2) D t) ∧ Below w.heap.size w (((w.alloc (.cells A t)).alloc (.cells C t)).alloc (.cells D t)) := by
  obtain ⟨h1, h2, h3, h4, _⟩ := box_three w A C D t t t
  exact ⟨⟨h1, h2, h3⟩, h4⟩
set_option maxHeartbeats 8000000 in
theorem order_any (w : World) (ra rb rc : Rf) (pa : Option Addr) (es : List En) (c : Nat) (ha : RfOk ra) (hb : RfOk rb) (hc : RfOk rc) (h : RowER w pa es) :
    Calls Tryz.prog 8 #[.agg (refC ra), .agg (refC rb), .agg (refC rc), .slice pa es.length c] w fun e w' => e = .returned (.bool true) ∧ Below w.heap.size w w' := by
  obtain ⟨av, hav⟩ : ∃ x, x = refC ra := ⟨_, rfl⟩
  obtain ⟨bv, hbv⟩ : ∃ x, x = refC rb := ⟨_, rfl⟩
  obtain ⟨cv, hcv⟩ : ∃ x, x = refC rc := ⟨_, rfl⟩
  obtain ⟨hl3, hb3⟩ := three_refs w av bv cv 37
  obtain ⟨n, hn⟩ : ∃ n, n = es.length := ⟨_, rfl⟩
  have hni : (n : Int) ≤ 9223372036854775807 := by have := h.1; unfold maxLen at this; omega
  have K0 : Hid (∀ V, Below w.heap.size w V → Calls Tryz.prog 40 #[.slice pa n c, .int .i64 2000] V fun e w' => CntRes (cntE es) 2000 800000000000000000 e ∧ Below V.heap.size V w') := Lib.hid fun V hV => by
    rw [hn]
    exact entriesOf_any V pa es c 2000 (by omega) (h.below hV (Nat.le_refl _))
  have KL : Hid (∀ V, Calls Tryz.prog 21 #[.agg av, .agg bv] V (fun e w' => e = .returned (.bool (lessR ra rb)) ∧ Below V.heap.size V w') ∧ Calls Tryz.prog 21 #[.agg bv, .agg av] V (fun e w' => e = .returned (.bool (lessR rb ra)) ∧ Below V.heap.size V w') ∧ Calls Tryz.prog 21 #[.agg bv, .agg cv] V (fun e w' => e = .returned (.bool (lessR rb rc)) ∧ Below V.heap.size V w') ∧ Calls Tryz.prog 21 #[.agg av, .agg cv] V (fun e w' => e = .returned (.bool (lessR ra rc)) ∧ Below V.heap.size V w')) := Lib.hid fun V => by
    rw [hav, hbv, hcv]
    exact ⟨less_any V ra rb ha.1 hb.1, less_any V rb ra hb.1 ha.1, less_any V rb rc hb.1 hc.1, less_any V ra rc ha.1 hc.1⟩
  have HEQ : Hid (∀ V, (binOp .eql 37 (.agg av) (.agg bv)).run Tryz.prog V = .ok (.bool (decide (ra = rb))) V) := Lib.hid fun V => by rw [hav, hbv]; exact eq_ref V ra rb ha hb
  have HI := Lib.hid (And.intro (show (Tryz.prog.info? 37).map (·.size) = some av.size by rw [hav, refC_size _ ha.1]; exact info_ref) (And.intro (show (Tryz.prog.info? 37).map (·.size) = some bv.size by rw [hbv, refC_size _ hb.1]; exact info_ref) (show (Tryz.prog.info? 37).map (·.size) = some cv.size by rw [hcv, refC_size _ hc.1]; exact info_ref)))
  have H := Lib.hid (And.intro h hn)
  rw [← hav, ← hbv, ← hcv, ← hn]
  clear h hn hav hbv hcv ha hb hc
  obtain ⟨W0, HW⟩ : ∃ W0, (((w.alloc (.cells av 37)).alloc (.cells bv 37)).alloc (.cells cv 37)) = W0 := ⟨_, rfl⟩
  rw [HW] at hl3 hb3
  go_enter Tryz.func8, Tryz.ntmps8
  go_upto_region 1 with fail
  clear HW
  obtain ⟨p, hp⟩ : ∃ p, p = w.heap.size := ⟨_, rfl⟩
  obtain ⟨q, hq⟩ : ∃ q, q = w.heap.size + 1 := ⟨_, rfl⟩
  obtain ⟨r, hr⟩ : ∃ r, r = w.heap.size + 2 := ⟨_, rfl⟩
  rw [← hr, ← hq, ← hp] at hl3
  rw [show w.heap.size + 1 + 1 = w.heap.size + 2 from rfl, ← hr, ← hq, ← hp]
  clear hp hq hr
  have HB := Lib.hid (And.intro hl3 hb3)
  clear hl3 hb3
  go_wp2_with fail
  refine (awakeP_any W0).mono ?_
  rintro e W1 ⟨rfl, hb1⟩
  have H1 := Lib.hid (HB.out.2.trans (hb1.mono HB.out.2.size))
  have HL1 := Lib.hid (And.intro (HB.out.1.1.below hb1 HB.out.1.1.lt) (And.intro (HB.out.1.2.1.below hb1 HB.out.1.2.1.lt) (HB.out.1.2.2.below hb1 HB.out.1.2.2.lt)))
  clear hb1
  go_wp2_with fail
  refine (K0.out W1 H1.out).mono ?_
  rintro e W2 ⟨⟨z, rfl, hz1, hz2⟩, hb2⟩
  have H2 := Lib.hid (H1.out.trans (hb2.mono H1.out.size))
  have HL2 := Lib.hid (And.intro (HL1.out.1.below hb2 HL1.out.1.lt) (And.intro (HL1.out.2.1.below hb2 HL1.out.2.1.lt) (HL1.out.2.2.below hb2 HL1.out.2.2.lt)))
  clear hb2
  by_cases hzz : (2000 : Int) < z
  · clear hz2
    go_wp2_with fail
    go_ret
    exact ⟨rfl, H2.out⟩
  · have hcnt := hz2 (by omega)
    have hrow : RowE w pa es := H.out.1.small (by omega)
    have HR := Lib.hid hrow
    clear hz2 hcnt hrow
    go_upto_region 5 with fail
    have HS : Hid (∀ V, Below W2.heap.size W2 V → V.rangeAt p 0 av.toList ∧ V.rangeAt q 0 bv.toList) := Lib.hid fun V hV => ⟨lies_range (HL2.out.1.below hV HL2.out.1.lt), lies_range (HL2.out.2.1.below hV HL2.out.2.1.lt)⟩
    obtain ⟨ab, hab⟩ : ∃ x, x = lessR ra rb := ⟨_, rfl⟩
    obtain ⟨ba, hba⟩ : ∃ x, x = lessR rb ra := ⟨_, rfl⟩
    obtain ⟨bc, hbc⟩ : ∃ x, x = lessR rb rc := ⟨_, rfl⟩
    obtain ⟨ac, hac⟩ : ∃ x, x = lessR ra rc := ⟨_, rfl⟩
    rw [← hab, ← hba, ← hbc, ← hac] at KL
    have HF := Lib.hid (And.intro hab (And.intro hba (And.intro hbc hac)))
    clear hab hba hbc hac
    refine wp_region_held (S := Below W2.heap.size W2) (by kernel_rfl) ?_
    change wpAnyH _ _ _ _ _ 8 _ _ (World.drew W2)
    have hcur : Below W2.heap.size W2 W2.drew := (Below.refl _ _).drew
    refine tk 0 (.agg av) 17 rfl rfl hcur ?_ (by intro w' hS'; exact exec_loadM 37 (.tmp 4) rfl p 0 rfl av ((HS.out w' hS').1) Tryz.underlying37 rfl HI.out.1)
    refine tk 1 (.agg bv) 18 rfl rfl hcur ?_ (by intro w' hS'; exact exec_loadM 37 (.tmp 5) rfl q 0 rfl bv ((HS.out w' hS').2) Tryz.underlying37 rfl HI.out.2.1)
    refine tk 3 (.agg bv) 20 rfl rfl hcur ?_ (by intro w' hS'; exact exec_loadM 37 (.tmp 5) rfl q 0 rfl bv ((HS.out w' hS').2) Tryz.underlying37 rfl HI.out.2.1)
    refine tk 4 (.agg av) 21 rfl rfl hcur ?_ (by intro w' hS'; exact exec_loadM 37 (.tmp 4) rfl p 0 rfl av ((HS.out w' hS').1) Tryz.underlying37 rfl HI.out.1)
    generalize W2.drew = V0 at hcur ⊢
    refine held_one (i := 2) (by kernel_rfl) _ rfl (wpOp_callG rfl (by rfl) 19 rfl 21 #[.agg av, .agg bv] (by unfold execOp; simp [go_sem]) _ (ret_gro (KL.out _).1) ?_)
    rintro _ U1 ⟨rfl, hn⟩
    have hcur := hcur.trans (hn.mono hcur.size)
    clear hn
    refine ⟨hcur, ?_⟩
    simp only [Act.put, List.setIfInBounds_toArray, List.set_cons_zero, List.set_cons_succ]
    refine held_one (i := 5) (by kernel_rfl) _ rfl (wpOp_callG rfl (by rfl) 22 rfl 21 #[.agg bv, .agg av] (by unfold execOp; simp [go_sem]) _ (ret_gro (KL.out _).2.1) ?_)
    rintro _ U2 ⟨rfl, hn⟩
    have hcur := hcur.trans (hn.mono hcur.size)
    clear hn
    refine ⟨hcur, ?_⟩
    simp only [Act.put, List.setIfInBounds_toArray, List.set_cons_zero, List.set_cons_succ]
    refine tk 6 (.bool ab) 9 rfl rfl hcur ?_
    refine tk 7 (.bool ba) 10 rfl rfl hcur ?_
    refine held_done (by kernel_rfl) ?_
    have hw := H2.out.trans (hcur.mono H2.out.size)
    have HLW := Lib.hid (And.intro (HL2.out.1.below hcur HL2.out.1.lt) (And.intro (HL2.out.2.1.below hcur HL2.out.2.1.lt) (HL2.out.2.2.below hcur HL2.out.2.2.lt)))
    have H3 := Lib.hid hw
    clear hcur hw
    have hcont : ∀ (x : Bool), True := fun _ => trivial
    clear hcont
    have heq := HEQ.out
    have hturn := lessR_turn ra rb
    have hsame := lessR_same ra rb
    have htr := @lessR_trans ra rb rc
    rw [← HF.out.1, ← HF.out.2.1] at hturn hsame
    rw [← HF.out.1, ← HF.out.2.2.1, ← HF.out.2.2.2] at htr
    cases ab with
    | true =>
      cases ba with
      | true => exact absurd ⟨rfl, rfl⟩ hturn
      | false =>
        have hne : decide (ra = rb) = false := by
          rw [decide_eq_false_iff_not]
          intro e
          have := hsame.2 e
          cases this.1
        simp only [hne] at heq
        cases bc with
        | true =>
          have hac1 := htr rfl rfl
          rw [hac1] at KL
          clear hturn hsame htr hac1 hne
          go_wp2_with (first
            | (refine wpList_load_rowQ (by rfl) 37 _ rfl p rfl 37 av (0, 0) _ HLW.out.1 Tryz.underlying37 rfl HI.out.1 ?_)
            | (refine wpList_load_rowQ (by rfl) 37 _ rfl q rfl 37 bv (0, 0) _ HLW.out.2.1 Tryz.underlying37 rfl HI.out.2.1 ?_)
            | (refine wpList_load_rowQ (by rfl) 37 _ rfl r rfl 37 cv (0, 0) _ HLW.out.2.2 Tryz.underlying37 rfl HI.out.2.2 ?_))
          refine (KL.out _).2.2.1.mono ?_
          rintro e U3 ⟨rfl, hb9⟩
          have hw9 := H3.out.trans (hb9.mono H3.out.size)
          have HL9 := Lib.hid (And.intro (HLW.out.1.below hb9 HLW.out.1.lt) (And.intro (HLW.out.2.1.below hb9 HLW.out.2.1.lt) (HLW.out.2.2.below hb9 HLW.out.2.2.lt)))
          have H9 := Lib.hid hw9
          clear hb9 hw9
          go_wp2_with (first
            | (refine wpList_load_rowQ (by rfl) 37 _ rfl p rfl 37 av (0, 0) _ HL9.out.1 Tryz.underlying37 rfl HI.out.1 ?_)
            | (refine wpList_load_rowQ (by rfl) 37 _ rfl r rfl 37 cv (0, 0) _ HL9.out.2.2 Tryz.underlying37 rfl HI.out.2.2 ?_))
          refine (KL.out _).2.2.2.mono ?_
          rintro e U4 ⟨rfl, hb9⟩
          have HWT := Lib.hid (H9.out.trans (hb9.mono H9.out.size))
          clear hb9 heq
          go_wp2_with fail
          go_loopw [11] (fun i V => ∃ k : Nat, 1 ≤ k ∧ i = .int .i64 k ∧ Below w.heap.size w V) (fun i _ => n - (intOf i).toNat)
          case atStart => exact ⟨1, Nat.le_refl _, by go_num, HWT.out⟩
          case round =>
            obtain ⟨k, hk1, rfl, hbw⟩ := hrel
            by_cases hlt : k < n
            · have m1 : (k : Int) < (n : Int) := by omega
              have KR := Lib.hid (rightEntries_any wr pa es c (HR.out.below hbw (Nat.le_refl _)))
              rw [← H.out.2] at KR
              obtain ⟨rb, hrb⟩ : ∃ b, b = rightEB es := ⟨_, rfl⟩
              rw [← hrb] at KR
              have HRB := Lib.hid hrb
              have HBW := Lib.hid hbw
              clear hrb hbw
              go_wp2_with fail
              refine KR.out.mono ?_
              rintro e U5 ⟨rfl, hb5⟩
              have H5 := Lib.hid (HBW.out.trans (hb5.mono HBW.out.size))
              clear hb5
              cases rb with
              | false =>
                go_wp2_with fail
                go_ret
                exact ⟨rfl, H5.out⟩
              | true =>
                obtain ⟨m, hm⟩ : ∃ m, k = m + 1 := ⟨k - 1, by omega⟩
                have hnn := H.out.2
                obtain ⟨g, off, hpa, hg, hh⟩ := HR.out.2 (by omega)
                subst hpa
                obtain ⟨d, hkd⟩ : ∃ d, es[m]? = some d := ⟨es[m]'(by omega), List.getElem?_eq_getElem _⟩
                obtain ⟨e, hke⟩ : ∃ e, es[m + 1]? = some e := ⟨es[m + 1]'(by omega), List.getElem?_eq_getElem _⟩
                have hD := hh.below H5.out hg (Nat.le_refl _) m d hkd
                have hE := hh.below H5.out hg (Nat.le_refl _) (m + 1) e hke
                have hless := right_rise HRB.out.symm hkd hke
                obtain ⟨dv, hdv⟩ : ∃ v, v = refC d.r := ⟨_, rfl⟩
                obtain ⟨ev, hev⟩ : ∃ v, v = refC e.r := ⟨_, rfl⟩
                have hg5 : g < U5.heap.size := Nat.lt_of_lt_of_le hg H5.out.size
                have K3 : Hid (∀ V, Calls Tryz.prog 21 #[.agg dv, .agg ev] V fun e w' => e = .returned (.bool true) ∧ Below V.heap.size V w') := Lib.hid fun V => by
                  have := less_any V d.r e.r hD.2.r.1 hE.2.r.1
                  rw [hless] at this
                  rw [hdv, hev]
                  exact this
                have HS2 : Hid (∀ V, Below U5.heap.size U5 V → V.rangeAt g (off + m * 102) dv.toList ∧ V.rangeAt g (off + k * 102) ev.toList) := Lib.hid fun V hV => by
                  rw [hm]
                  refine ⟨fun j v hj => ?_, fun j v hj => ?_⟩
                  · exact (hV.cell (p := ⟨g, off + m * 102 + j, none⟩) hg5).trans (hD.1 j v (enC_ref hD.2 j v (by rw [← hdv]; exact hj)))
                  · exact (hV.cell (p := ⟨g, off + (m + 1) * 102 + j, none⟩) hg5).trans (hE.1 j v (enC_ref hE.2 j v (by rw [← hev]; exact hj)))
                have HI2 := Lib.hid (And.intro (show (Tryz.prog.info? 37).map (·.size) = some dv.size by rw [hdv, refC_size _ hD.2.r.1]; exact info_ref) (show (Tryz.prog.info? 37).map (·.size) = some ev.size by rw [hev, refC_size _ hE.2.r.1]; exact info_ref))
                have hkm : IntKind.i64.wrap ((k : Int) - 1) = (m : Int) := by rw [IntKind.wrap_i64]; omega
                have q0 : (0 : Int) ≤ (m : Int) := by omega
                have q1 : (m : Int) < (n : Int) := by omega
                have q2 : (0 : Int) ≤ (k : Int) := by omega
                clear hm hnn hg hh hkd hke hD hE hless hdv hev hg5
                go_upto_region 11 with fail
                refine wp_region_held (S := Below U5.heap.size U5) (by kernel_rfl) ?_
                change wpAnyH _ _ _ _ _ 13 _ _ (World.drew U5)
                have hcur : Below U5.heap.size U5 U5.drew := (Below.refl _ _).drew
                refine tk 0 (.slice (some ⟨g, off, none⟩) n c) 63 rfl rfl hcur ?_
                refine tk 1 (.int .i64 (k : Int)) 64 rfl rfl hcur ?_
                refine tk 2 (.int .i64 (m : Int)) 65 rfl rfl hcur ?_ (by intro w' hS'; unfold execOp; simp [go_sem, hkm])
                refine tk 3 (.pointer (some ⟨g, off + m * 102, none⟩)) 66 rfl rfl hcur ?_ (by intro w' hS'; unfold execOp; simp [go_sem, q0, q1])
                refine tk 4 (.pointer (some ⟨g, off + m * 102, none⟩)) 67 rfl rfl hcur ?_
                refine tk 5 (.agg dv) 68 rfl rfl hcur ?_ (by intro w' hS'; exact exec_loadM 37 (.tmp 67) rfl g (off + m * 102) rfl dv ((HS2.out w' hS').1) Tryz.underlying37 rfl HI2.out.1)
                refine tk 6 (.slice (some ⟨g, off, none⟩) n c) 69 rfl rfl hcur ?_
                refine tk 7 (.int .i64 (k : Int)) 70 rfl rfl hcur ?_
                refine tk 8 (.pointer (some ⟨g, off + k * 102, none⟩)) 71 rfl rfl hcur ?_ (by intro w' hS'; unfold execOp; simp [go_sem, q2, m1])
                refine tk 9 (.pointer (some ⟨g, off + k * 102, none⟩)) 72 rfl rfl hcur ?_
                refine tk 10 (.agg ev) 73 rfl rfl hcur ?_ (by intro w' hS'; exact exec_loadM 37 (.tmp 72) rfl g (off + k * 102) rfl ev ((HS2.out w' hS').2) Tryz.underlying37 rfl HI2.out.2)
                generalize U5.drew = V5 at hcur ⊢
                refine held_one (i := 11) (by kernel_rfl) _ rfl (wpOp_callG rfl (by rfl) 74 rfl 21 #[.agg dv, .agg ev] (by unfold execOp; simp [go_sem]) _ (ret_gro (K3.out _)) ?_)
                rintro _ U6 ⟨rfl, hn⟩
                have hcur := hcur.trans (hn.mono hcur.size)
                clear hn
                refine ⟨hcur, ?_⟩
                simp only [Act.put, List.setIfInBounds_toArray, List.set_cons_zero, List.set_cons_succ]
                refine tk 12 (.bool false) 75 rfl rfl hcur ?_
                refine held_done (by kernel_rfl) ?_
                have H6 := Lib.hid (H5.out.trans (hcur.mono H5.out.size))
                clear hcur
                go_wp2_with fail
                go_roundw
                case rel => exact ⟨k + 1, by omega, by go_num, H6.out⟩
                case measure => simp [intOf]; omega
            · have m1 : ¬ (k : Int) < (n : Int) := by omega
              have HBW := Lib.hid hbw
              clear hbw
              go_wp2_with fail
              go_ret
              exact ⟨rfl, HBW.out⟩
        | false =>
          clear hturn hsame htr hne
          go_wp2_with (first
            | (refine wpList_load_rowQ (by rfl) 37 _ rfl p rfl 37 av (0, 0) _ HLW.out.1 Tryz.underlying37 rfl HI.out.1 ?_)
            | (refine wpList_load_rowQ (by rfl) 37 _ rfl q rfl 37 bv (0, 0) _ HLW.out.2.1 Tryz.underlying37 rfl HI.out.2.1 ?_)
            | (refine wpList_load_rowQ (by rfl) 37 _ rfl r rfl 37 cv (0, 0) _ HLW.out.2.2 Tryz.underlying37 rfl HI.out.2.2 ?_))
          refine (KL.out _).2.2.1.mono ?_
          rintro e U3 ⟨rfl, hb9⟩
          have HWT := Lib.hid (H3.out.trans (hb9.mono H3.out.size))
          clear hb9 heq
          go_wp2_with fail
          go_loopw [11] (fun i V => ∃ k : Nat, 1 ≤ k ∧ i = .int .i64 k ∧ Below w.heap.size w V) (fun i _ => n - (intOf i).toNat)
          case atStart => exact ⟨1, Nat.le_refl _, by go_num, HWT.out⟩
          case round =>
            obtain ⟨k, hk1, rfl, hbw⟩ := hrel
            by_cases hlt : k < n
            · have m1 : (k : Int) < (n : Int) := by omega
              have KR := Lib.hid (rightEntries_any wr pa es c (HR.out.below hbw (Nat.le_refl _)))
              rw [← H.out.2] at KR
              obtain ⟨rb, hrb⟩ : ∃ b, b = rightEB es := ⟨_, rfl⟩
              rw [← hrb] at KR
              have HRB := Lib.hid hrb
              have HBW := Lib.hid hbw
              clear hrb hbw
              go_wp2_with fail
              refine KR.out.mono ?_
              rintro e U5 ⟨rfl, hb5⟩
              have H5 := Lib.hid (HBW.out.trans (hb5.mono HBW.out.size))
              clear hb5
              cases rb with
              | false =>
                go_wp2_with fail
                go_ret
                exact ⟨rfl, H5.out⟩
              | true =>
                obtain ⟨m, hm⟩ : ∃ m, k = m + 1 := ⟨k - 1, by omega⟩
                have hnn := H.out.2
                obtain ⟨g, off, hpa, hg, hh⟩ := HR.out.2 (by omega)
                subst hpa
                obtain ⟨d, hkd⟩ : ∃ d, es[m]? = some d := ⟨es[m]'(by omega), List.getElem?_eq_getElem _⟩
                obtain ⟨e, hke⟩ : ∃ e, es[m + 1]? = some e := ⟨es[m + 1]'(by omega), List.getElem?_eq_getElem _⟩
                have hD := hh.below H5.out hg (Nat.le_refl _) m d hkd
                have hE := hh.below H5.out hg (Nat.le_refl _) (m + 1) e hke
                have hless := right_rise HRB.out.symm hkd hke
                obtain ⟨dv, hdv⟩ : ∃ v, v = refC d.r := ⟨_, rfl⟩
                obtain ⟨ev, hev⟩ : ∃ v, v = refC e.r := ⟨_, rfl⟩
                have hg5 : g < U5.heap.size := Nat.lt_of_lt_of_le hg H5.out.size
                have K3 : Hid (∀ V, Calls Tryz.prog 21 #[.agg dv, .agg ev] V fun e w' => e = .returned (.bool true) ∧ Below V.heap.size V w') := Lib.hid fun V => by
                  have := less_any V d.r e.r hD.2.r.1 hE.2.r.1
                  rw [hless] at this
                  rw [hdv, hev]
                  exact this
                have HS2 : Hid (∀ V, Below U5.heap.size U5 V → V.rangeAt g (off + m * 102) dv.toList ∧ V.rangeAt g (off + k * 102) ev.toList) := Lib.hid fun V hV => by
                  rw [hm]
                  refine ⟨fun j v hj => ?_, fun j v hj => ?_⟩
                  · exact (hV.cell (p := ⟨g, off + m * 102 + j, none⟩) hg5).trans (hD.1 j v (enC_ref hD.2 j v (by rw [← hdv]; exact hj)))
                  · exact (hV.cell (p := ⟨g, off + (m + 1) * 102 + j, none⟩) hg5).trans (hE.1 j v (enC_ref hE.2 j v (by rw [← hev]; exact hj)))
                have HI2 := Lib.hid (And.intro (show (Tryz.prog.info? 37).map (·.size) = some dv.size by rw [hdv, refC_size _ hD.2.r.1]; exact info_ref) (show (Tryz.prog.info? 37).map (·.size) = some ev.size by rw [hev, refC_size _ hE.2.r.1]; exact info_ref))
                have hkm : IntKind.i64.wrap ((k : Int) - 1) = (m : Int) := by rw [IntKind.wrap_i64]; omega
                have q0 : (0 : Int) ≤ (m : Int) := by omega
                have q1 : (m : Int) < (n : Int) := by omega
                have q2 : (0 : Int) ≤ (k : Int) := by omega
                clear hm hnn hg hh hkd hke hD hE hless hdv hev hg5
                go_upto_region 11 with fail
                refine wp_region_held (S := Below U5.heap.size U5) (by kernel_rfl) ?_
                change wpAnyH _ _ _ _ _ 13 _ _ (World.drew U5)
                have hcur : Below U5.heap.size U5 U5.drew := (Below.refl _ _).drew
                refine tk 0 (.slice (some ⟨g, off, none⟩) n c) 63 rfl rfl hcur ?_
                refine tk 1 (.int .i64 (k : Int)) 64 rfl rfl hcur ?_
                refine tk 2 (.int .i64 (m : Int)) 65 rfl rfl hcur ?_ (by intro w' hS'; unfold execOp; simp [go_sem, hkm])
                refine tk 3 (.pointer (some ⟨g, off + m * 102, none⟩)) 66 rfl rfl hcur ?_ (by intro w' hS'; unfold execOp; simp [go_sem, q0, q1])
                refine tk 4 (.pointer (some ⟨g, off + m * 102, none⟩)) 67 rfl rfl hcur ?_
                refine tk 5 (.agg dv) 68 rfl rfl hcur ?_ (by intro w' hS'; exact exec_loadM 37 (.tmp 67) rfl g (off + m * 102) rfl dv ((HS2.out w' hS').1) Tryz.underlying37 rfl HI2.out.1)
                refine tk 6 (.slice (some ⟨g, off, none⟩) n c) 69 rfl rfl hcur ?_
                refine tk 7 (.int .i64 (k : Int)) 70 rfl rfl hcur ?_
                refine tk 8 (.pointer (some ⟨g, off + k * 102, none⟩)) 71 rfl rfl hcur ?_ (by intro w' hS'; unfold execOp; simp [go_sem, q2, m1])
                refine tk 9 (.pointer (some ⟨g, off + k * 102, none⟩)) 72 rfl rfl hcur ?_
                refine tk 10 (.agg ev) 73 rfl rfl hcur ?_ (by intro w' hS'; exact exec_loadM 37 (.tmp 72) rfl g (off + k * 102) rfl ev ((HS2.out w' hS').2) Tryz.underlying37 rfl HI2.out.2)
                generalize U5.drew = V5 at hcur ⊢
                refine held_one (i := 11) (by kernel_rfl) _ rfl (wpOp_callG rfl (by rfl) 74 rfl 21 #[.agg dv, .agg ev] (by unfold execOp; simp [go_sem]) _ (ret_gro (K3.out _)) ?_)
                rintro _ U6 ⟨rfl, hn⟩
                have hcur := hcur.trans (hn.mono hcur.size)
                clear hn
                refine ⟨hcur, ?_⟩
                simp only [Act.put, List.setIfInBounds_toArray, List.set_cons_zero, List.set_cons_succ]
                refine tk 12 (.bool false) 75 rfl rfl hcur ?_
                refine held_done (by kernel_rfl) ?_
                have H6 := Lib.hid (H5.out.trans (hcur.mono H5.out.size))
                clear hcur
                go_wp2_with fail
                go_roundw
                case rel => exact ⟨k + 1, by omega, by go_num, H6.out⟩
                case measure => simp [intOf]; omega
            · have m1 : ¬ (k : Int) < (n : Int) := by omega
              have HBW := Lib.hid hbw
              clear hbw
              go_wp2_with fail
              go_ret
              exact ⟨rfl, HBW.out⟩
    | false =>
      have HWT := H3
      cases ba with
      | true =>
        have hne : decide (ra = rb) = false := by
          rw [decide_eq_false_iff_not]
          intro e
          have := hsame.2 e
          cases this.2
        simp only [hne] at heq
        clear hturn hsame htr hne
        go_wp2_with (first
          | (refine wpList_load_rowQ (by rfl) 37 _ rfl p rfl 37 av (0, 0) _ HLW.out.1 Tryz.underlying37 rfl HI.out.1 ?_)
          | (refine wpList_load_rowQ (by rfl) 37 _ rfl q rfl 37 bv (0, 0) _ HLW.out.2.1 Tryz.underlying37 rfl HI.out.2.1 ?_)
          | (refine wpList_load_rowQ (by rfl) 37 _ rfl r rfl 37 cv (0, 0) _ HLW.out.2.2 Tryz.underlying37 rfl HI.out.2.2 ?_))
        go_loopw [11] (fun i V => ∃ k : Nat, 1 ≤ k ∧ i = .int .i64 k ∧ Below w.heap.size w V) (fun i _ => n - (intOf i).toNat)
        case atStart => exact ⟨1, Nat.le_refl _, by go_num, HWT.out⟩
        case round =>
          obtain ⟨k, hk1, rfl, hbw⟩ := hrel
          by_cases hlt : k < n
          · have m1 : (k : Int) < (n : Int) := by omega
            have KR := Lib.hid (rightEntries_any wr pa es c (HR.out.below hbw (Nat.le_refl _)))
            rw [← H.out.2] at KR
            obtain ⟨rb, hrb⟩ : ∃ b, b = rightEB es := ⟨_, rfl⟩
            rw [← hrb] at KR
            have HRB := Lib.hid hrb
            have HBW := Lib.hid hbw
            clear hrb hbw
            go_wp2_with fail
            refine KR.out.mono ?_
            rintro e U5 ⟨rfl, hb5⟩
            have H5 := Lib.hid (HBW.out.trans (hb5.mono HBW.out.size))
            clear hb5
            cases rb with
            | false =>
              go_wp2_with fail
              go_ret
              exact ⟨rfl, H5.out⟩
            | true =>
              obtain ⟨m, hm⟩ : ∃ m, k = m + 1 := ⟨k - 1, by omega⟩
              have hnn := H.out.2
              obtain ⟨g, off, hpa, hg, hh⟩ := HR.out.2 (by omega)
              subst hpa
              obtain ⟨d, hkd⟩ : ∃ d, es[m]? = some d := ⟨es[m]'(by omega), List.getElem?_eq_getElem _⟩
              obtain ⟨e, hke⟩ : ∃ e, es[m + 1]? = some e := ⟨es[m + 1]'(by omega), List.getElem?_eq_getElem _⟩
              have hD := hh.below H5.out hg (Nat.le_refl _) m d hkd
              have hE := hh.below H5.out hg (Nat.le_refl _) (m + 1) e hke
              have hless := right_rise HRB.out.symm hkd hke
              obtain ⟨dv, hdv⟩ : ∃ v, v = refC d.r := ⟨_, rfl⟩
              obtain ⟨ev, hev⟩ : ∃ v, v = refC e.r := ⟨_, rfl⟩
              have hg5 : g < U5.heap.size := Nat.lt_of_lt_of_le hg H5.out.size
              have K3 : Hid (∀ V, Calls Tryz.prog 21 #[.agg dv, .agg ev] V fun e w' => e = .returned (.bool true) ∧ Below V.heap.size V w') := Lib.hid fun V => by
                have := less_any V d.r e.r hD.2.r.1 hE.2.r.1
                rw [hless] at this
                rw [hdv, hev]
                exact this
              have HS2 : Hid (∀ V, Below U5.heap.size U5 V → V.rangeAt g (off + m * 102) dv.toList ∧ V.rangeAt g (off + k * 102) ev.toList) := Lib.hid fun V hV => by
                rw [hm]
                refine ⟨fun j v hj => ?_, fun j v hj => ?_⟩
                · exact (hV.cell (p := ⟨g, off + m * 102 + j, none⟩) hg5).trans (hD.1 j v (enC_ref hD.2 j v (by rw [← hdv]; exact hj)))
                · exact (hV.cell (p := ⟨g, off + (m + 1) * 102 + j, none⟩) hg5).trans (hE.1 j v (enC_ref hE.2 j v (by rw [← hev]; exact hj)))
              have HI2 := Lib.hid (And.intro (show (Tryz.prog.info? 37).map (·.size) = some dv.size by rw [hdv, refC_size _ hD.2.r.1]; exact info_ref) (show (Tryz.prog.info? 37).map (·.size) = some ev.size by rw [hev, refC_size _ hE.2.r.1]; exact info_ref))
              have hkm : IntKind.i64.wrap ((k : Int) - 1) = (m : Int) := by rw [IntKind.wrap_i64]; omega
              have q0 : (0 : Int) ≤ (m : Int) := by omega
              have q1 : (m : Int) < (n : Int) := by omega
              have q2 : (0 : Int) ≤ (k : Int) := by omega
              clear hm hnn hg hh hkd hke hD hE hless hdv hev hg5
              go_upto_region 11 with fail
              refine wp_region_held (S := Below U5.heap.size U5) (by kernel_rfl) ?_
              change wpAnyH _ _ _ _ _ 13 _ _ (World.drew U5)
              have hcur : Below U5.heap.size U5 U5.drew := (Below.refl _ _).drew
              refine tk 0 (.slice (some ⟨g, off, none⟩) n c) 63 rfl rfl hcur ?_
              refine tk 1 (.int .i64 (k : Int)) 64 rfl rfl hcur ?_
              refine tk 2 (.int .i64 (m : Int)) 65 rfl rfl hcur ?_ (by intro w' hS'; unfold execOp; simp [go_sem, hkm])
              refine tk 3 (.pointer (some ⟨g, off + m * 102, none⟩)) 66 rfl rfl hcur ?_ (by intro w' hS'; unfold execOp; simp [go_sem, q0, q1])
              refine tk 4 (.pointer (some ⟨g, off + m * 102, none⟩)) 67 rfl rfl hcur ?_
              refine tk 5 (.agg dv) 68 rfl rfl hcur ?_ (by intro w' hS'; exact exec_loadM 37 (.tmp 67) rfl g (off + m * 102) rfl dv ((HS2.out w' hS').1) Tryz.underlying37 rfl HI2.out.1)
              refine tk 6 (.slice (some ⟨g, off, none⟩) n c) 69 rfl rfl hcur ?_
              refine tk 7 (.int .i64 (k : Int)) 70 rfl rfl hcur ?_
              refine tk 8 (.pointer (some ⟨g, off + k * 102, none⟩)) 71 rfl rfl hcur ?_ (by intro w' hS'; unfold execOp; simp [go_sem, q2, m1])
              refine tk 9 (.pointer (some ⟨g, off + k * 102, none⟩)) 72 rfl rfl hcur ?_
              refine tk 10 (.agg ev) 73 rfl rfl hcur ?_ (by intro w' hS'; exact exec_loadM 37 (.tmp 72) rfl g (off + k * 102) rfl ev ((HS2.out w' hS').2) Tryz.underlying37 rfl HI2.out.2)
              generalize U5.drew = V5 at hcur ⊢
              refine held_one (i := 11) (by kernel_rfl) _ rfl (wpOp_callG rfl (by rfl) 74 rfl 21 #[.agg dv, .agg ev] (by unfold execOp; simp [go_sem]) _ (ret_gro (K3.out _)) ?_)
              rintro _ U6 ⟨rfl, hn⟩
              have hcur := hcur.trans (hn.mono hcur.size)
              clear hn
              refine ⟨hcur, ?_⟩
              simp only [Act.put, List.setIfInBounds_toArray, List.set_cons_zero, List.set_cons_succ]
              refine tk 12 (.bool false) 75 rfl rfl hcur ?_
              refine held_done (by kernel_rfl) ?_
              have H6 := Lib.hid (H5.out.trans (hcur.mono H5.out.size))
              clear hcur
              go_wp2_with fail
              go_roundw
              case rel => exact ⟨k + 1, by omega, by go_num, H6.out⟩
              case measure => simp [intOf]; omega
          · have m1 : ¬ (k : Int) < (n : Int) := by omega
            have HBW := Lib.hid hbw
            clear hbw
            go_wp2_with fail
            go_ret
            exact ⟨rfl, HBW.out⟩
      | false =>
        have hne : decide (ra = rb) = true := decide_eq_true (hsame.1 ⟨rfl, rfl⟩)
        simp only [hne] at heq
        clear hturn hsame htr hne
        go_wp2_with (first
          | (refine wpList_load_rowQ (by rfl) 37 _ rfl p rfl 37 av (0, 0) _ HLW.out.1 Tryz.underlying37 rfl HI.out.1 ?_)
          | (refine wpList_load_rowQ (by rfl) 37 _ rfl q rfl 37 bv (0, 0) _ HLW.out.2.1 Tryz.underlying37 rfl HI.out.2.1 ?_)
          | (refine wpList_load_rowQ (by rfl) 37 _ rfl r rfl 37 cv (0, 0) _ HLW.out.2.2 Tryz.underlying37 rfl HI.out.2.2 ?_))
        go_loopw [11] (fun i V => ∃ k : Nat, 1 ≤ k ∧ i = .int .i64 k ∧ Below w.heap.size w V) (fun i _ => n - (intOf i).toNat)
        case atStart => exact ⟨1, Nat.le_refl _, by go_num, HWT.out⟩
        case round =>
          obtain ⟨k, hk1, rfl, hbw⟩ := hrel
          by_cases hlt : k < n
          · have m1 : (k : Int) < (n : Int) := by omega
            have KR := Lib.hid (rightEntries_any wr pa es c (HR.out.below hbw (Nat.le_refl _)))
            rw [← H.out.2] at KR
            obtain ⟨rb, hrb⟩ : ∃ b, b = rightEB es := ⟨_, rfl⟩
            rw [← hrb] at KR
            have HRB := Lib.hid hrb
            have HBW := Lib.hid hbw
            clear hrb hbw
            go_wp2_with fail
            refine KR.out.mono ?_
            rintro e U5 ⟨rfl, hb5⟩
            have H5 := Lib.hid (HBW.out.trans (hb5.mono HBW.out.size))
            clear hb5
            cases rb with
            | false =>
              go_wp2_with fail
              go_ret
              exact ⟨rfl, H5.out⟩
            | true =>
              obtain ⟨m, hm⟩ : ∃ m, k = m + 1 := ⟨k - 1, by omega⟩
              have hnn := H.out.2
              obtain ⟨g, off, hpa, hg, hh⟩ := HR.out.2 (by omega)
              subst hpa
              obtain ⟨d, hkd⟩ : ∃ d, es[m]? = some d := ⟨es[m]'(by omega), List.getElem?_eq_getElem _⟩
              obtain ⟨e, hke⟩ : ∃ e, es[m + 1]? = some e := ⟨es[m + 1]'(by omega), List.getElem?_eq_getElem _⟩
              have hD := hh.below H5.out hg (Nat.le_refl _) m d hkd
              have hE := hh.below H5.out hg (Nat.le_refl _) (m + 1) e hke
              have hless := right_rise HRB.out.symm hkd hke
              obtain ⟨dv, hdv⟩ : ∃ v, v = refC d.r := ⟨_, rfl⟩
              obtain ⟨ev, hev⟩ : ∃ v, v = refC e.r := ⟨_, rfl⟩
              have hg5 : g < U5.heap.size := Nat.lt_of_lt_of_le hg H5.out.size
              have K3 : Hid (∀ V, Calls Tryz.prog 21 #[.agg dv, .agg ev] V fun e w' => e = .returned (.bool true) ∧ Below V.heap.size V w') := Lib.hid fun V => by
                have := less_any V d.r e.r hD.2.r.1 hE.2.r.1
                rw [hless] at this
                rw [hdv, hev]
                exact this
              have HS2 : Hid (∀ V, Below U5.heap.size U5 V → V.rangeAt g (off + m * 102) dv.toList ∧ V.rangeAt g (off + k * 102) ev.toList) := Lib.hid fun V hV => by
                rw [hm]
                refine ⟨fun j v hj => ?_, fun j v hj => ?_⟩
                · exact (hV.cell (p := ⟨g, off + m * 102 + j, none⟩) hg5).trans (hD.1 j v (enC_ref hD.2 j v (by rw [← hdv]; exact hj)))
                · exact (hV.cell (p := ⟨g, off + (m + 1) * 102 + j, none⟩) hg5).trans (hE.1 j v (enC_ref hE.2 j v (by rw [← hev]; exact hj)))
              have HI2 := Lib.hid (And.intro (show (Tryz.prog.info? 37).map (·.size) = some dv.size by rw [hdv, refC_size _ hD.2.r.1]; exact info_ref) (show (Tryz.prog.info? 37).map (·.size) = some ev.size by rw [hev, refC_size _ hE.2.r.1]; exact info_ref))
              have hkm : IntKind.i64.wrap ((k : Int) - 1) = (m : Int) := by rw [IntKind.wrap_i64]; omega
              have q0 : (0 : Int) ≤ (m : Int) := by omega
              have q1 : (m : Int) < (n : Int) := by omega
              have q2 : (0 : Int) ≤ (k : Int) := by omega
              clear hm hnn hg hh hkd hke hD hE hless hdv hev hg5
              go_upto_region 11 with fail
              refine wp_region_held (S := Below U5.heap.size U5) (by kernel_rfl) ?_
              change wpAnyH _ _ _ _ _ 13 _ _ (World.drew U5)
              have hcur : Below U5.heap.size U5 U5.drew := (Below.refl _ _).drew
              refine tk 0 (.slice (some ⟨g, off, none⟩) n c) 63 rfl rfl hcur ?_
              refine tk 1 (.int .i64 (k : Int)) 64 rfl rfl hcur ?_
              refine tk 2 (.int .i64 (m : Int)) 65 rfl rfl hcur ?_ (by intro w' hS'; unfold execOp; simp [go_sem, hkm])
              refine tk 3 (.pointer (some ⟨g, off + m * 102, none⟩)) 66 rfl rfl hcur ?_ (by intro w' hS'; unfold execOp; simp [go_sem, q0, q1])
              refine tk 4 (.pointer (some ⟨g, off + m * 102, none⟩)) 67 rfl rfl hcur ?_
              refine tk 5 (.agg dv) 68 rfl rfl hcur ?_ (by intro w' hS'; exact exec_loadM 37 (.tmp 67) rfl g (off + m * 102) rfl dv ((HS2.out w' hS').1) Tryz.underlying37 rfl HI2.out.1)
              refine tk 6 (.slice (some ⟨g, off, none⟩) n c) 69 rfl rfl hcur ?_
              refine tk 7 (.int .i64 (k : Int)) 70 rfl rfl hcur ?_
              refine tk 8 (.pointer (some ⟨g, off + k * 102, none⟩)) 71 rfl rfl hcur ?_ (by intro w' hS'; unfold execOp; simp [go_sem, q2, m1])
              refine tk 9 (.pointer (some ⟨g, off + k * 102, none⟩)) 72 rfl rfl hcur ?_
              refine tk 10 (.agg ev) 73 rfl rfl hcur ?_ (by intro w' hS'; exact exec_loadM 37 (.tmp 72) rfl g (off + k * 102) rfl ev ((HS2.out w' hS').2) Tryz.underlying37 rfl HI2.out.2)
              generalize U5.drew = V5 at hcur ⊢
              refine held_one (i := 11) (by kernel_rfl) _ rfl (wpOp_callG rfl (by rfl) 74 rfl 21 #[.agg dv, .agg ev] (by unfold execOp; simp [go_sem]) _ (ret_gro (K3.out _)) ?_)
              rintro _ U6 ⟨rfl, hn⟩
              have hcur := hcur.trans (hn.mono hcur.size)
              clear hn
              refine ⟨hcur, ?_⟩
              simp only [Act.put, List.setIfInBounds_toArray, List.set_cons_zero, List.set_cons_succ]
              refine tk 12 (.bool false) 75 rfl rfl hcur ?_
              refine held_done (by kernel_rfl) ?_
              have H6 := Lib.hid (H5.out.trans (hcur.mono H5.out.size))
              clear hcur
              go_wp2_with fail
              go_roundw
              case rel => exact ⟨k + 1, by omega, by go_num, H6.out⟩
              case measure => simp [intOf]; omega
          · have m1 : ¬ (k : Int) < (n : Int) := by omega
            have HBW := Lib.hid hbw
            clear hbw
            go_wp2_with fail
            go_ret
            exact ⟨rfl, HBW.out⟩
end Go.Proofs.YtilbbemdinpjcaaGreat.P
namespace Go.Proofs.YtilbbemdinpjcaaGreat.packOrder
open Go.ChangeShapes Go.WideShapes Go.ChangeAt Go.RowKit

theorem own : ownKnob Tryz.prog.godebug = none := by kernel_rfl
def zRef : Value := .agg (Array.replicate 32 (.int .u8 0) ++ #[.int .i64 0])
set_option maxRecDepth 100000 in
theorem lifted (os : Os) (started : os.Started) (H : Type) (enc : TypeId × Value → H) :
    ReturnsInHanded {} Tryz.checked os 8 .any (Rows.packOrderSpec.pre6 enc Tryz.prog Tryz.f8 Rows.packOrderRow.domain false) (Rows.packOrderSpec.post enc Tryz.prog Tryz.f8 false true false false) := by
  refine returnsInHanded_of_change_sized (C := Tryz.checked) own started (by kernel_rfl) Tryz.func8
    (ChangeSpec.witness6 (enc := enc) (C := Tryz.checked) false ⟨#[], #[zRef, zRef, zRef, .slice none 0 0], []⟩ 8 (by kernel_rfl) (by kernel_rfl) (by kernel_rfl) (by kernel_rfl)) ?_
  intro W base args ds gs before hval0 hW _ hsz _
  have hval : ∀ (j : Nat) t v, Tryz.f8.params[j]? = some t → args[j]? = some v → Value.okWide Tryz.prog W .any base t v := hval0
  have hW' := hW
  obtain ⟨p, q, hA0, hV, rfl, hfz, hnd⟩ := hW
  have hA : DataW.TrodAll enc Tryz.prog W 0 (fun _ => true) true Tryz.f8.params.toList args.toList ds p := hA0
  have hsz' : (DataW.weightsEach Tryz.prog (Tryz.f8.params.toList ++ Rows.packOrderSpec.plain.varTypes Tryz.prog) (ds ++ gs)).all (· ≤ reachBytes) = true := hsz
  rw [Tryz.params8] at hA hval hsz'
  obtain ⟨v0, vs0, d0, ds0, p0, q0, hargs, rfl, rfl, h0, r0⟩ := trodAll_cons hA
  obtain ⟨v1, vs1, d1, ds1, p1, q1, rfl, rfl, rfl, h1, r1⟩ := trodAll_cons r0
  obtain ⟨v2, vs2, d2, ds2, p2, q2, rfl, rfl, rfl, h2, r2⟩ := trodAll_cons r1
  obtain ⟨v3, vs3, d3, ds3, p3, q3, rfl, rfl, rfl, h3, r3⟩ := trodAll_cons r2
  obtain ⟨rfl, rfl, rfl⟩ := trodAll_nil r3
  obtain rfl : args = #[v0, v1, v2, v3] := by cases args; simp_all
  obtain ⟨rfl, rfl⟩ := trodVars_none hV
  simp only [List.append_nil] at hW' hsz'
  have hreach : ∀ n ∈ d3.weights Tryz.prog 38, n ≤ reachBytes := fun n hn => of_decide_eq_true (List.all_eq_true.1 hsz' n (DataW.weights_mem_each (j := 3) rfl rfl n hn))
  obtain ⟨ra, rfl, ha⟩ := P.open_ref (hval 0 37 v0 rfl rfl) h0
  obtain ⟨rb, rfl, hb⟩ := P.open_ref (hval 1 37 v1 rfl rfl) h1
  obtain ⟨rc, rfl, hc⟩ := P.open_ref (hval 2 37 v2 rfl rfl) h2
  obtain ⟨pa, es, c, rfl, hes, _⟩ := P.open_entries (hval 3 38 v3 rfl rfl) h3 hreach
  clear hA0 hval0 hsz hsz' hreach
  refine (P.order_any W ra rb rc pa es c ha hb hc hes).mono fun e W' ⟨he, hbl⟩ => ?_
  subst he
  have hlt := hW'.lt
  refine ⟨_, rfl, [d0, d1, d2, d3], [], p0 ++ (p1 ++ (p2 ++ p3)), [], p0 ++ (p1 ++ (p2 ++ p3)), [], hW', ?_, ?_, rfl, hbl.frame _, fun h => by cases h⟩
  · exact trodAll_cons_mk (shut_bool Tryz.underlying4 _) trodAll_mk0
  · refine trodAll_cons_mk (P.args_stay (by kernel_rfl) (of_decide_eq_true (by kernel_rfl)) h0 hbl ?_) (trodAll_cons_mk (P.args_stay (by kernel_rfl) (of_decide_eq_true (by kernel_rfl)) h1 hbl ?_) (trodAll_cons_mk (P.args_stay (by kernel_rfl) (of_decide_eq_true (by kernel_rfl)) h2 hbl ?_) (trodAll_mk1 (P.args_stay (by kernel_rfl) (of_decide_eq_true (by kernel_rfl)) h3 hbl ?_))))
    all_goals exact fun x hx => hlt x (by simp [hx])

theorem over : Rows.packOrderRow.holds Tryz.pinned (OpenSpec.ofChange Rows.packOrderSpec) :=
  OpenClaim.holds_of_wide 8 Tryz.f8 rfl rfl rfl rfl rfl rfl rfl ⟨rfl, rfl, rfl, rfl, rfl⟩ rfl rfl rfl rfl rfl (by kernel_rfl) Tryz.func8 (by kernel_rfl)
    (of_decide_eq_true (by kernel_rfl)) (by unfold Func.isWrapper; first | (rw [if_pos (by decide +kernel)]; kernel_rfl) | (rw [if_neg (by decide +kernel)]; exact ⟨rfl, rfl⟩))
    (fun os started H enc _ => lifted os started H enc)
end Go.Proofs.YtilbbemdinpjcaaGreat.packOrder
namespace Go.Proofs.YtilbbemdinpjcaaGreat
theorem packOrder_said : Rows.PackOrderSaid := packOrder.over
end Go.Proofs.YtilbbemdinpjcaaGreat
