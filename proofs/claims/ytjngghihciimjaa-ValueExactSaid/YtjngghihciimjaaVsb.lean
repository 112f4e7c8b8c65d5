/-
  Sub: the bundle that is left, if there is one; Covers.
-/
import Derived.Test.YtjngghihciimjaaVad
namespace Go.Proofs.Ytjngghihciimjaa
set_option maxRecDepth 100000
open Go.RowKit Go.Sort Go.Maps

/-- Bundles that stand whole in a block. -/
theorem rowV_of {W : World} {g : Nat} {cs : Array Value} {vs : List Va} {t : TypeId} (hl : Lies W g cs t) (hc : cs.toList = cellsF vaC vs) (hok : ∀ v, v ∈ vs → VaOk W v) (hlen : vs.length ≤ maxLen) : RowV W (some ⟨g, 0, none⟩) vs :=
  ⟨hlen, fun _ => ⟨g, 0, rfl, hl.lt, fun i v hi => ⟨fun j x hj => by
    have hj2 : j < 2 := by
      have := (List.getElem?_eq_some_iff.1 hj).1
      rwa [Array.length_toList, vaC_size] at this
    have h1 := cellsF_get vaC 2 vs (fun v _ => vaC_size v) i v hi j hj2
    rw [Array.getElem?_toList] at hj
    rw [hj, ← hc, Array.getElem?_toList] at h1
    rw [Nat.zero_add]
    exact hl.cell (i * 2 + j) h1, hok v (List.mem_of_getElem? hi)⟩⟩⟩
theorem VaOk.below {W U : World} {v : Va} (h : VaOk W v) {B : Nat} (hb : Below B W U) (hB : W.heap.size ≤ B) : VaOk U v := ⟨h.1, h.2.1, h.2.2.below hb hB⟩
theorem Row.smallRow {w : World} {pa : Option Addr} {l : List As} (h : Row w pa l) {b : Nat} {cs : Array Value} {t : TypeId} (hl : Lies w b cs t) (hlt : cs.size ≤ 33) (cs' : Array Value) : Row (w.setRow b cs') pa l :=
  ⟨h.1, h.2.1, fun h0 => by
    obtain ⟨g, off, e, hg, hh⟩ := h.2.2 h0
    have hne : g ≠ b := fun e2 => by
      subst e2
      have hc := hh 0 l[0] (List.getElem?_eq_getElem h0) 33 _ (by rw [Array.getElem?_toList]; exact asC_amt _ (h.2.1 _ (List.getElem_mem h0)).1)
      rw [cell_of_row w g _ cs t (0, 0) hl, Array.getElem?_eq_none (by omega)] at hc
      cases hc
    exact ⟨g, off, e, by simpa [World.setRow] using hg, fun i a hi k x hk => (World.cell?_of_block (setRow_other w b g cs' hne)).trans (hh i a hi k x hk)⟩⟩
/-- A bundle with all signs turned. -/
def turnV (v : Va) : Va := ⟨-v.coin, none, turnL v.l, 0⟩
def SubZ (a b : Va) (coin : Int) (l : List As) : Prop := (rightV a = true ∧ rightV b = true) ∧ TogOk (coinS [a, turnV b]) (sumAt (ctsL [a, turnV b])) coin l
def SubN (a b : Va) : Prop := ∀ coin l, ¬ SubZ a b coin l
theorem turn_names {w : World} {a b : Va} (ha : VaOk w a) (hb : VaOk w b) (ra : rightV a = true) (rb : rightV b = true) : ∀ p, p ∈ ctsL [a, turnV b] → p.1.1.length = 32 ∧ p.1.2.length ≤ 281474976710656 := fun p hp => by
  obtain ⟨v, hv, x, hx, rfl⟩ := ctsL_mem hp
  rcases List.mem_cons.1 hv with rfl | hv
  · exact ⟨(ha.2.2.2.1 x hx).1, Nat.le_trans (((right_iff _ _).1 ra).2.2.1 x hx).1 (by decide)⟩
  · rw [List.mem_singleton] at hv
    subst hv
    obtain ⟨y, hy, rfl⟩ := List.mem_map.1 hx
    exact ⟨(hb.2.2.2.1 y hy).1, Nat.le_trans (((right_iff _ _).1 rb).2.2.1 y hy).1 (by decide)⟩
set_option maxHeartbeats 4000000 in
theorem sub1_any (w : World) (ba bb : Nat) (a b : Va) (hLa : Lies w ba (vaC a) 24) (hLb : Lies w bb (vaC b) 24) (ha : VaOk w a) (hb : VaOk w b) :
    Calls Try.prog 30 #[.pointer (some ⟨ba, 0, none⟩), .pointer (some ⟨bb, 0, none⟩)] w fun e w' => Tells (SubZ a b) (SubN a b) e w' ∧ Below w.heap.size w w' := by
  have hb1 : Below w.heap.size w (w.alloc (.cells #[.int .i64 0, .slice none 0 0] 24)) := (Below.refl _ _).alloc (Nat.le_refl _) _
  have hb2 : Below w.heap.size w ((w.alloc (.cells #[.int .i64 0, .slice none 0 0] 24)).alloc (.cells #[.int .i64 a.coin, .slice a.pa a.l.length a.c, .int .i64 b.coin, .slice b.pa b.l.length b.c] 24)) := hb1.alloc hb1.size _
  have hL1 : Lies ((w.alloc (.cells #[.int .i64 0, .slice none 0 0] 24)).alloc (.cells #[.int .i64 a.coin, .slice a.pa a.l.length a.c, .int .i64 b.coin, .slice b.pa b.l.length b.c] 24)) w.heap.size #[.int .i64 0, .slice none 0 0] 24 := (Lies.new _ _ _).alloc _
  have hL2 : Lies ((w.alloc (.cells #[.int .i64 0, .slice none 0 0] 24)).alloc (.cells #[.int .i64 a.coin, .slice a.pa a.l.length a.c, .int .i64 b.coin, .slice b.pa b.l.length b.c] 24)) (w.heap.size + 1) #[.int .i64 a.coin, .slice a.pa a.l.length a.c, .int .i64 b.coin, .slice b.pa b.l.length b.c] 24 := by
    have := Lies.new (w.alloc (.cells #[.int .i64 0, .slice none 0 0] 24)) #[.int .i64 a.coin, .slice a.pa a.l.length a.c, .int .i64 b.coin, .slice b.pa b.l.length b.c] 24
    simpa using this
  have hmust := mustRight_any _ (some ⟨w.heap.size + 1, 0, none⟩) [a, b] 2 (rowV_of hL2 rfl (fun v hv => by
    rcases List.mem_cons.1 hv with rfl | hv
    · exact ha.below hb2 (Nat.le_refl _)
    · rw [List.mem_singleton] at hv
      rw [hv]
      exact hb.below hb2 (Nat.le_refl _)) (show 2 ≤ maxLen by decide))
  have q0 := hLa.cell 0 (v := .int .i64 a.coin) rfl
  have q1 := hLa.cell 1 (v := .slice a.pa a.l.length a.c) rfl
  have q2 := hLb.cell 0 (v := .int .i64 b.coin) rfl
  have q3 := hLb.cell 1 (v := .slice b.pa b.l.length b.c) rfl
  have q0 := (hb1.cell (p := ⟨ba, 0, none⟩) hLa.lt).trans q0
  have q1 := (hb1.cell (p := ⟨ba, 1, none⟩) hLa.lt).trans q1
  have q2 := (hb1.cell (p := ⟨bb, 0, none⟩) hLb.lt).trans q2
  have q3 := (hb1.cell (p := ⟨bb, 1, none⟩) hLb.lt).trans q3
  have H := Lib.hid (And.intro hLa (And.intro hLb (And.intro ha (And.intro hb (And.intro hb2 hL1)))))
  have HM := Lib.hid hmust
  clear hb1 hL1 hL2 hmust hb hb2 ha hLa hLb
  go_enter Try.func30, Try.ntmps30
  go_wp2_with fail
  refine HM.out.mono ?_
  rintro e w2 ⟨hm, hb2⟩
  have hbw := H.out.2.2.2.2.1.trans (hb2.mono H.out.2.2.2.2.1.size)
  have hL2 := H.out.2.2.2.2.2.below hb2 H.out.2.2.2.2.2.lt
  clear q0 q1 q2 q3 HM
  rcases hm with ⟨hall, v, rfl⟩ | ⟨hno, n, rfl⟩
  · have hr : rightV a = true ∧ rightV b = true := by simpa using hall
    have hra := (right_iff a.coin a.l).1 hr.1
    have hrb := (right_iff b.coin b.l).1 hr.2
    have hLa := H.out.1.below hbw H.out.1.lt
    have hLb := H.out.2.1.below hbw H.out.2.1.lt
    have hoa := H.out.2.2.1.below hbw (Nat.le_refl _)
    have hob := H.out.2.2.2.1.below hbw (Nat.le_refl _)
    have hwlt := hL2.lt
    go_upto_region 2 with fail
    have HS : Hid (∀ U, Below w2.heap.size w2 U → Lies U ba (vaC a) 24 ∧ Lies U bb (vaC b) 24) := Lib.hid fun U hU => ⟨hLa.below hU hLa.lt, hLb.below hU hLb.lt⟩
    have H2 := Lib.hid (And.intro hL2 (And.intro hbw (And.intro hr (And.intro hra (And.intro hrb (And.intro hoa (And.intro hob hwlt)))))))
    clear hL2 hbw hr hra hrb hoa hob hwlt hLa hLb hall hb2
    refine wp_region_orPanic (fun c U => (∃ n, c = [{ v := .iface 80 (.int .i64 n), recovered := false }]) ∧ SubN a b ∧ Below w.heap.size w U) (fun c x U h1 h2 => ⟨h1, .inr ⟨by obtain ⟨n, rfl⟩ := h2.1; exact Fault.panic n, h2.2.1⟩, h2.2.2⟩) ?_
    refine wp_region_late (fun j => j == 5) (fun U => Lies U ba (vaC a) 24 ∧ Lies U bb (vaC b) 24) (by kernel_rfl) ?_
    change wpLate _ _ _ _ _ _ 6 _ _ (World.drew w2)
    have hbd : Below w2.heap.size w2 w2.drew := (Below.refl _ _).drew
    generalize World.drew w2 = wd at hbd ⊢
    have hcur := HS.out _ hbd
    refine late_take (i := 0) (v := (.agg (vaC a))) rfl 7 rfl (by kernel_rfl) (by kernel_rfl) (by kernel_rfl) (by kernel_rfl) (fun _ _ _ h => h) (by rfl) (by intro w' hS'; exact exec_loadM 24 _ rfl _ _ rfl (vaC a) (range_lies hS'.1) Try.underlying24 rfl info_value) hcur _ rfl ?_
    simp only [Act.put, List.setIfInBounds_toArray, List.set_cons_zero, List.set_cons_succ]
    refine late_take (i := 1) (v := (.agg (vaC b))) rfl 8 rfl (by kernel_rfl) (by kernel_rfl) (by kernel_rfl) (by kernel_rfl) (fun _ _ _ h => h) (by rfl) (by intro w' hS'; exact exec_loadM 24 _ rfl _ _ rfl (vaC b) (range_lies hS'.2) Try.underlying24 rfl info_value) hcur _ rfl ?_
    simp only [Act.put, List.setIfInBounds_toArray, List.set_cons_zero, List.set_cons_succ]
    have htu : Calls Try.prog 31 #[.agg (vaC b)] wd fun e w' => ∃ v, e = .returned v ∧ ((∃ pt ct, v = .agg (vC (-b.coin) pt (turnL b.l).length ct) ∧ Row w' pt (turnL b.l)) ∧ Below wd.heap.size wd w') :=
      (turned_any wd b.coin b.pa b.l b.c (H2.out.2.2.2.2.2.2.1.2.2.below hbd (Nat.le_refl _)) (Nat.le_trans H2.out.2.2.2.2.1.2.1 (by decide)) (by have := H2.out.2.2.2.2.1.1; omega) (by have := H2.out.2.2.2.2.2.2.1.2.1; omega) (fun x hx => by have := (H2.out.2.2.2.2.1.2.2.1 x hx).2; omega)).mono fun e w' hh => by
        obtain ⟨⟨pt, ct, h1, h2⟩, h3⟩ := hh
        exact ⟨_, h1, ⟨pt, ct, by unfold turnL; rw [List.length_map], h2⟩, h3⟩
    refine late_one (i := 2) (by kernel_rfl) _ rfl (wpOp_callG rfl (by rfl) 9 rfl 31 #[.agg (vaC b)] (by unfold execOp; simp [go_sem]) _ htu ?_)
    rintro v3 w3 ⟨⟨pt, ct, rfl, hrt⟩, hb3⟩
    have hc3 := hbd.trans (hb3.mono hbd.size)
    have hcur := HS.out _ hc3
    refine ⟨fun _ => hcur, ?_⟩
    simp only [Act.put, List.setIfInBounds_toArray, List.set_cons_zero, List.set_cons_succ]
    refine late_one (i := 3) (by kernel_rfl) _ rfl (wpOp_valG (v := .slice (some ⟨w3.heap.size, 0, none⟩) 2 2) (w' := w3.alloc (.cells #[.int .i64 a.coin, .slice a.pa a.l.length a.c, .int .i64 (-b.coin), .slice pt (turnL b.l).length ct] 24)) rfl (by rfl) 10 rfl (by unfold execOp; simp [go_sem, vC, vaC]) ?_)
    have hb4 : Below w3.heap.size w3 (w3.alloc (.cells #[.int .i64 a.coin, .slice a.pa a.l.length a.c, .int .i64 (-b.coin), .slice pt (turnL b.l).length ct] 24)) := (Below.refl _ _).alloc (Nat.le_refl _) _
    have hL4 : Lies (w3.alloc (.cells #[.int .i64 a.coin, .slice a.pa a.l.length a.c, .int .i64 (-b.coin), .slice pt (turnL b.l).length ct] 24)) w3.heap.size #[.int .i64 a.coin, .slice a.pa a.l.length a.c, .int .i64 (-b.coin), .slice pt (turnL b.l).length ct] 24 := Lies.new _ _ _
    generalize w3.alloc (.cells #[.int .i64 a.coin, .slice a.pa a.l.length a.c, .int .i64 (-b.coin), .slice pt (turnL b.l).length ct] 24) = w4 at hb4 hL4 ⊢
    have hc4 := hc3.trans (hb4.mono hc3.size)
    have hcur := HS.out _ hc4
    refine ⟨fun _ => hcur, ?_⟩
    simp only [Act.put, List.setIfInBounds_toArray, List.set_cons_zero, List.set_cons_succ]
    have hok4 : ∀ v, v ∈ [a, (⟨-b.coin, pt, turnL b.l, ct⟩ : Va)] → VaOk w4 v := fun v hv => by
      rcases List.mem_cons.1 hv with rfl | hv
      · exact H2.out.2.2.2.2.2.1.below hc4 (Nat.le_refl _)
      · rw [List.mem_singleton] at hv
        rw [hv]
        have h1 := H2.out.2.2.2.2.1.1
        have h2 := H2.out.2.2.2.2.2.2.1.2.1
        refine ⟨?_, ?_, hrt.below hb4 (Nat.le_refl _)⟩
        · show -9223372036854775808 ≤ -b.coin
          omega
        · show -b.coin < 9223372036854775808
          omega
    have hfew : (ctsL [a, (⟨-b.coin, pt, turnL b.l, ct⟩ : Va)]).length ≤ 1000000 := by
      have h1 := H2.out.2.2.2.1.2.1
      have h2 := H2.out.2.2.2.2.1.2.1
      show (ctsOf a ++ (ctsOf (⟨-b.coin, pt, turnL b.l, ct⟩ : Va) ++ [])).length ≤ 1000000
      unfold ctsOf turnL
      simp only [List.length_append, List.length_map, List.length_nil]
      omega
    have htog := together_any w4 (some ⟨w3.heap.size, 0, none⟩) [a, ⟨-b.coin, pt, turnL b.l, ct⟩] 2 (rowV_of hL4 rfl hok4 (show 2 ≤ maxLen by decide)) hfew (fun p hp => turn_names H2.out.2.2.2.2.2.1 H2.out.2.2.2.2.2.2.1 H2.out.2.2.1.1 H2.out.2.2.1.2 p hp)
    have htog2 : Calls Try.prog 25 #[.slice (some ⟨w3.heap.size, 0, none⟩) 2 2] w4 fun e w' => (∃ v, e = .returned v ∧ ((∃ coin l p c', v = .agg (vC coin p l.length c') ∧ Row w' p l ∧ SubZ a b coin l) ∧ Below w4.heap.size w4 w')) ∨ (∃ c, e = .panicked c ∧ ((∃ n, c = [{ v := .iface 80 (.int .i64 n), recovered := false }]) ∧ SubN a b ∧ Below w4.heap.size w4 w')) :=
      htog.mono fun e w' hh => by
        rcases hh with ⟨⟨coin, l, p, c', h1, h2, h3⟩ | ⟨⟨n, h1⟩, h2⟩, h4⟩
        · exact .inl ⟨_, h1, ⟨coin, l, p, c', rfl, h2, H2.out.2.2.1, h3⟩, h4⟩
        · exact .inr ⟨_, h1, ⟨n, rfl⟩, fun coin l hz => h2 coin l hz.2, h4⟩
    clear htog hok4 hfew
    refine late_one (i := 4) (by kernel_rfl) _ rfl (wpOp_callP rfl (by rfl) 11 rfl 25 #[.slice (some ⟨w3.heap.size, 0, none⟩) 2 2] (by unfold execOp; simp [go_sem]) _ _ htog2 ?_ ?_)
    rotate_left
    · rintro c5 w5 ⟨hn, hN, hb5⟩
      exact ⟨rfl, hn, hN, H2.out.2.1.trans ((hc4.trans (hb5.mono hc4.size)).mono H2.out.2.1.size)⟩
    rintro v5 w5 ⟨⟨coin, l, p, c', rfl, hrow, hz⟩, hb5⟩
    have hc5 := hc4.trans (hb5.mono hc4.size)
    have hcur := HS.out _ hc5
    refine ⟨fun _ => hcur, ?_⟩
    simp only [Act.put, List.setIfInBounds_toArray, List.set_cons_zero, List.set_cons_succ]
    have hL5 := H2.out.1.below hc5 H2.out.1.lt
    refine late_one (i := 5) (by kernel_rfl) _ rfl (wpOp_storeRow rfl rfl 24 _ _ rfl w.heap.size (vC coin p l.length c') rfl rfl 24 #[.int .i64 0, .slice none 0 0] hL5 info_value rfl (by simp [vC, Value.oneCell']) ?_)
    refine ⟨fun h => absurd h (by decide), ?_⟩
    simp only [Act.put, List.setIfInBounds_toArray, List.set_cons_zero, List.set_cons_succ]
    have hbR := below_setRow (H2.out.2.1.trans (hc5.mono H2.out.2.1.size)) w.heap.size (vC coin p l.length c') (Nat.le_refl _)
    have hLR : Lies (w5.setRow w.heap.size (vC coin p l.length c')) w.heap.size (vC coin p l.length c') 24 := hL5.setRow _
    have hrow2 : Row (w5.setRow w.heap.size (vC coin p l.length c')) p l := hrow.smallRow hL5 (by decide) _
    generalize w5.setRow w.heap.size (vC coin p l.length c') = w6 at hbR hLR hrow2 ⊢
    refine late_done (by kernel_rfl) ?_ _
    unfold OrPanic
    dsimp only
    have HE := Lib.hid (And.intro hrow2 (And.intro hbR (And.intro hLR hz)))
    clear hrow2 hbR hLR hL5 hcur hc5 hb5 hrow hz htog2 hc4 hb4 hL4 hc3 hb3 hrt hbd htu
    go_wp2_with fail
    refine bodyPost_ret (v := .agg (vC coin p l.length c')) (results_cell_row (p := 2) (ty := 24) (by kernel_rfl) _ _ w.heap.size 24 (vC coin p l.length c') (0, 0) _ rfl HE.out.2.2.1 Try.underlying24 rfl info_value) rfl ⟨.inl ⟨coin, l, p, c', rfl, HE.out.1, HE.out.2.2.2⟩, HE.out.2.1⟩
  · exact ⟨rfl, .inr ⟨Fault.panic n, fun coin l hz => by
      have : [a, b].all rightV = true := by simp [hz.1.1, hz.1.2]
      rw [this] at hno; cases hno⟩, hbw⟩
theorem enters30 : ∀ (cap : Array Value) (w : World), (callFunc 30 cap).run Try.prog w = .ok (.enter 30 cap) w := fun cap w => enters_of Try.func30 (by kernel_rfl) rfl cap w
theorem boxed_two (w : World) (a b : Va) : Below w.heap.size w ((w.alloc (.cells #[.int .i64 a.coin, .slice a.pa a.l.length a.c] 24)).alloc (.cells #[.int .i64 b.coin, .slice b.pa b.l.length b.c] 24)) ∧ Lies ((w.alloc (.cells #[.int .i64 a.coin, .slice a.pa a.l.length a.c] 24)).alloc (.cells #[.int .i64 b.coin, .slice b.pa b.l.length b.c] 24)) w.heap.size (vaC a) 24 ∧ Lies ((w.alloc (.cells #[.int .i64 a.coin, .slice a.pa a.l.length a.c] 24)).alloc (.cells #[.int .i64 b.coin, .slice b.pa b.l.length b.c] 24)) (w.heap.size + 1) (vaC b) 24 ∧ ((w.alloc (.cells #[.int .i64 a.coin, .slice a.pa a.l.length a.c] 24)).alloc (.cells #[.int .i64 b.coin, .slice b.pa b.l.length b.c] 24)).heap.size = w.heap.size + 2 := by
  refine ⟨((Below.refl _ _).alloc (Nat.le_refl _) _).alloc (by simp) _, (Lies.new _ _ _).alloc _, ?_, by simp⟩
  have := Lies.new (w.alloc (.cells #[.int .i64 a.coin, .slice a.pa a.l.length a.c] 24)) #[.int .i64 b.coin, .slice b.pa b.l.length b.c] 24
  show Lies _ _ #[.int .i64 b.coin, .slice b.pa b.l.length b.c] _
  simpa using this
set_option maxHeartbeats 4000000 in
theorem sub_any (w : World) (a b : Va) (ha : VaOk w a) (hb : VaOk w b) :
    Calls Try.prog 10 #[.agg (vaC a), .agg (vaC b)] w fun e w' => Asked (SubZ a b) (SubN a b) e w' ∧ Below w.heap.size w w' := by
  have hmf : ∀ (fn : Fn) (first cap : Array Value) (w : World), (Instr.makeFunc fn first cap).run Try.prog w = .ok (.func fn first cap) w := fun _ _ _ _ => rfl
  obtain ⟨hb0, hLa, hLb, hsz⟩ := boxed_two w a b
  have hb1 : Below w.heap.size w (((w.alloc (.cells #[.int .i64 a.coin, .slice a.pa a.l.length a.c] 24)).alloc (.cells #[.int .i64 b.coin, .slice b.pa b.l.length b.c] 24)).alloc (.cells #[.int .i64 0, .slice none 0 0] 24)) := hb0.alloc hb0.size _
  have hL1 : Lies (((w.alloc (.cells #[.int .i64 a.coin, .slice a.pa a.l.length a.c] 24)).alloc (.cells #[.int .i64 b.coin, .slice b.pa b.l.length b.c] 24)).alloc (.cells #[.int .i64 0, .slice none 0 0] 24)) (w.heap.size + 2) #[.int .i64 0, .slice none 0 0] 24 := by
    have := Lies.new ((w.alloc (.cells #[.int .i64 a.coin, .slice a.pa a.l.length a.c] 24)).alloc (.cells #[.int .i64 b.coin, .slice b.pa b.l.length b.c] 24)) #[.int .i64 0, .slice none 0 0] 24
    rwa [hsz] at this
  have hask := ask_any (((w.alloc (.cells #[.int .i64 a.coin, .slice a.pa a.l.length a.c] 24)).alloc (.cells #[.int .i64 b.coin, .slice b.pa b.l.length b.c] 24)).alloc (.cells #[.int .i64 0, .slice none 0 0] 24)) 30 #[.pointer (some ⟨w.heap.size, 0, none⟩), .pointer (some ⟨w.heap.size + 1, 0, none⟩)] (SubZ a b) (SubN a b) (enters30 _) (fun w1 hw1 =>
    sub1_any w1 w.heap.size (w.heap.size + 1) a b ((hLa.alloc _).below hw1 (hLa.alloc _).lt) ((hLb.alloc _).below hw1 (hLb.alloc _).lt) (ha.below (hb1.trans (hw1.mono hb1.size)) (Nat.le_refl _)) (hb.below (hb1.trans (hw1.mono hb1.size)) (Nat.le_refl _)))
  have H := Lib.hid (And.intro hask (And.intro hb1 hL1))
  clear hask hb1 hL1 hLa hLb hb0 hsz ha hb
  unfold vaC vC
  go_enter Try.func10, Try.ntmps10
  go_wp2_with fail
  refine H.out.1.mono ?_
  rintro e w2 ⟨ht, hb2⟩
  have key : ∃ ok coin l pa' c', e = .returned (.tuple #[.agg (vC coin pa' l.length c'), .bool ok]) ∧ Row w2 pa' l ∧ (∀ e' w', Told ok coin l e' w' → Asked (SubZ a b) (SubN a b) e' w') := by
    rcases ht with ⟨coin, l, hz, pa', c', h1, h2⟩ | ⟨hN, pa', c', h1, h2⟩
    · exact ⟨true, coin, l, pa', c', h1, h2, fun e' w' hh => .inl ⟨coin, l, hz, hh⟩⟩
    · exact ⟨false, 0, [], pa', c', h1, h2, fun e' w' hh => .inr ⟨hN, hh⟩⟩
  obtain ⟨ok, coin, l, p, c', rfl, hrow, hto⟩ := key
  have hL3 := H.out.2.2.below hb2 H.out.2.2.lt
  have hb33 := H.out.2.1.trans (hb2.mono H.out.2.1.size)
  have q0 := hL3.cell 0 (v := .int .i64 0) rfl
  have q1 := hL3.cell 1 (v := .slice none 0 0) rfl
  have f0 := hL3.free 0
  have f1 := hL3.free 1
  have hL3a := hL3.set 0 (.int .i64 coin)
  have hrow2 := (hrow.small hL3 (by decide) 0 (.int .i64 coin)).small hL3a (by simp) 1 (.slice p l.length c')
  have hbR : Below w.heap.size w ((w2.setCell ⟨w.heap.size + 2, 0, none⟩ (.int .i64 coin)).setCell ⟨w.heap.size + 2, 1, none⟩ (.slice p l.length c')) := below_setCell (below_setCell hb33 _ _ (by simp)) _ _ (by simp)
  have hLR : Lies ((w2.setCell ⟨w.heap.size + 2, 0, none⟩ (.int .i64 coin)).setCell ⟨w.heap.size + 2, 1, none⟩ (.slice p l.length c')) (w.heap.size + 2) #[.int .i64 coin, .slice p l.length c'] 24 := hL3a.set 1 _
  have HE := Lib.hid (And.intro hrow2 (And.intro hbR (And.intro hLR hto)))
  clear hrow2 hbR hLR hL3a hL3 hb33 hrow hto hb2 ht
  unfold vC
  go_wp2_with fail
  refine bodyPost_ret (v := .tuple #[.agg #[.int .i64 coin, .slice p l.length c'], .bool ok]) (results_row_tmp (p := 4) (u := 5) (ty := 24) (by kernel_rfl) _ _ (w.heap.size + 2) 24 #[.int .i64 coin, .slice p l.length c'] (0, 0) _ rfl HE.out.2.2.1 Try.underlying24 rfl info_value) rfl ⟨HE.out.2.2.2 _ _ ⟨p, c', rfl, HE.out.1⟩, HE.out.2.1⟩
def CovRes (a b : Va) (e : Ending) : Prop := (∃ coin l, SubZ a b coin l ∧ e = .returned (.bool true)) ∨ (SubN a b ∧ e = .returned (.bool false))
set_option maxHeartbeats 4000000 in
theorem covers_any (w : World) (a b : Va) (ha : VaOk w a) (hb : VaOk w b) :
    Calls Try.prog 11 #[.agg (vaC a), .agg (vaC b)] w fun e w' => CovRes a b e ∧ Below w.heap.size w w' := by
  obtain ⟨hb0, hLa, hLb, hsz⟩ := boxed_two w a b
  have hsub := sub_any ((w.alloc (.cells #[.int .i64 a.coin, .slice a.pa a.l.length a.c] 24)).alloc (.cells #[.int .i64 b.coin, .slice b.pa b.l.length b.c] 24)) a b (ha.below hb0 (Nat.le_refl _)) (hb.below hb0 (Nat.le_refl _))
  unfold vaC vC at hsub
  have q0 := hLa.cell 0 (v := .int .i64 a.coin) rfl
  have q1 := hLa.cell 1 (v := .slice a.pa a.l.length a.c) rfl
  have q2 := hLb.cell 0 (v := .int .i64 b.coin) rfl
  have q3 := hLb.cell 1 (v := .slice b.pa b.l.length b.c) rfl
  have H := Lib.hid (And.intro hsub (And.intro hb0 (And.intro hLa hLb)))
  clear hsub hb0 hLa hLb hsz ha hb
  unfold vaC vC
  go_enter Try.func11, Try.ntmps11
  go_wp2_with fail
  refine H.out.1.mono ?_
  rintro e w2 ⟨ht, hb2⟩
  have key : ∃ (ok : Bool) (coin : Int) (l : List As) (pa' : Option Addr) (c' : Nat), e = .returned (.tuple #[.agg (vC coin pa' l.length c'), .bool ok]) ∧ CovRes a b (.returned (.bool ok)) := by
    rcases ht with ⟨coin, l, hz, pa', c', h1, h2⟩ | ⟨hN, pa', c', h1, h2⟩
    · exact ⟨true, coin, l, pa', c', h1, .inl ⟨coin, l, hz, rfl⟩⟩
    · exact ⟨false, 0, [], pa', c', h1, .inr ⟨hN, rfl⟩⟩
  obtain ⟨ok, coin, l, p, c', rfl, hto⟩ := key
  have HE := Lib.hid (And.intro hto (H.out.2.1.trans (hb2.mono H.out.2.1.size)))
  clear hto hb2 ht q0 q1 q2 q3
  unfold vC
  go_wp2_with fail
  go_ret
  exact ⟨HE.out.1, HE.out.2.alloc HE.out.2.size _⟩
end Go.Proofs.Ytjngghihciimjaa
