/-
  TermOrder's walk (4).
-/
import Derived.Test.YtieoiklgoeclaaaTcn2
import Derived.Test.YtieoiklgoeclaaaTjp
import Derived.Deep.Cut
namespace Go.Proofs.Ytieoiklgoeclaaa
open Go.RowKit

/-- A term that came in. -/
structure TIn (w : World) (t : TK) : Prop where
  raw : TRaw w t.a t.xs
  txt : TxtRaw t.xs
  len : t.xs.length ≤ 140737488355328
  room : t.xs.length ≤ t.c
  none0 : t.a = none → t.c = 0
  words : Words t.xs
  kids : ∀ x ∈ t.xs, x.kids ≤ 9223372036854775807
theorem TIn.below {w w' : World} {t : TK} (h : TIn w t) (hb : Below w.heap.size w w') : TIn w' t := ⟨h.raw.below hb (Nat.le_refl _), h.txt, h.len, h.room, h.none0, h.words, h.kids⟩
theorem TIn.tat {w : World} {t : TK} (h : TIn w t) (hc : cost t.xs ≤ 300) : TAt w t.a t.xs := ⟨h.raw, by have := cost_len t.xs; omega, h.kids⟩
theorem TIn.txtIn {w : World} {t : TK} (h : TIn w t) : TxtIn t.xs := fun x hx => Nat.le_trans (h.txt x hx) (by omega)
theorem row_raw (w : World) (l : List TK) (h : ∀ t ∈ l, TIn w t) : RsAt (w.alloc (.cells (l.map TK.v).toArray 24)) (some ⟨w.heap.size, 0, none⟩) l :=
  ⟨fun _ => ⟨w.heap.size, 0, rfl, by simp, fun j hj => by
    rw [Nat.zero_add]
    exact (Lies.new w _ 24).cell j (by simp [hj])⟩, fun t ht => ⟨(h t ht).raw.below ((Below.refl _ w).alloc (Nat.le_refl _) _) (Nat.le_refl _), (h t ht).txt, (h t ht).len⟩⟩
theorem ts_of {w : World} {g : Nat} {l : List TK} (hl : Lies w g (l.map TK.v).toArray 24) (h : ∀ t ∈ l, TAt w t.a t.xs ∧ t.xs.length ≤ t.c ∧ TxtIn t.xs) : TsAt w (some ⟨g, 0, none⟩) l :=
  ⟨fun _ => ⟨g, 0, rfl, hl.lt, fun j hj => by
    rw [Nat.zero_add]
    exact hl.cell j (by simp [hj])⟩, h⟩
theorem own_term {w : World} {v : Value} {n : Nd} {ls : List (List Nd)} (h : OwnT w 0 v (joinL n ls)) (hl : 1 + ls.flatten.length ≤ 1000000) (hm : ls.length ≤ 1000000) (hk : ∀ xs ∈ ls, ∀ x ∈ xs, x.kids ≤ 9223372036854775807) :
    ∃ a c, v = .slice a (joinL n ls).length c ∧ TAt w a (joinL n ls) := by
  obtain ⟨a, m, c, rfl⟩ := h.isSlice
  have hll : (joinL n ls).length ≤ 1000000 := by simp only [joinL, List.length_cons]; omega
  have hkk : ∀ x ∈ joinL n ls, x.kids ≤ 9223372036854775807 := by
    intro x hx
    simp only [joinL, List.mem_cons, List.mem_flatten] at hx
    rcases hx with rfl | ⟨xs, h1, h2⟩
    · simp only; omega
    · exact hk xs h1 x h2
  obtain ⟨h1, h2, -⟩ := h.tat hll hkk
  exact ⟨a, c, by rw [h2], h1⟩
/-- The call's own boxes. -/
def Box4 (V : World) (p : Nat) (a b c : TK) (n : Nd) : Prop :=
  Lies V p #[a.v] 24 ∧ Lies V (p + 1) #[b.v] 24 ∧ Lies V (p + 2) #[c.v] 24 ∧ Lies V (p + 3) n.cells 32
theorem Box4.below {V V' : World} {p : Nat} {a b c : TK} {n : Nd} (h : Box4 V p a b c n) (hb : Below V.heap.size V V') : Box4 V' p a b c n :=
  ⟨h.1.below hb h.1.lt, h.2.1.below hb h.2.1.lt, h.2.2.1.below hb h.2.2.1.lt, h.2.2.2.below hb h.2.2.2.lt⟩
theorem box4_new (w : World) (a b c : TK) (n : Nd) : Box4 ((((w.alloc (.cells #[a.v] 24)).alloc (.cells #[b.v] 24)).alloc (.cells #[c.v] 24)).alloc (.cells n.cells 32)) w.heap.size a b c n ∧ Below w.heap.size w ((((w.alloc (.cells #[a.v] 24)).alloc (.cells #[b.v] 24)).alloc (.cells #[c.v] 24)).alloc (.cells n.cells 32)) := by
  refine ⟨⟨(((Lies.new w _ 24).alloc _).alloc _).alloc _, ?_, ?_, ?_⟩, ((((Below.refl _ _).alloc (Nat.le_refl _) _).alloc (by simp) _).alloc (by simp; omega) _).alloc (by simp; omega) _⟩
  · have := ((Lies.new (w.alloc (.cells #[a.v] 24)) #[b.v] 24).alloc (.cells #[c.v] 24)).alloc (.cells n.cells 32)
    simpa using this
  · have := (Lies.new ((w.alloc (.cells #[a.v] 24)).alloc (.cells #[b.v] 24)) #[c.v] 24).alloc (.cells n.cells 32)
    simpa using this
  · have := Lies.new (((w.alloc (.cells #[a.v] 24)).alloc (.cells #[b.v] 24)).alloc (.cells #[c.v] 24)) n.cells 32
    simpa using this
set_option maxRecDepth 100000 in
set_option maxHeartbeats 4000000 in
theorem orderL_any (w : World) (a b c : TK) (n : Nd) (ha : TIn w a) (hb : TIn w b) (hc : TIn w c) (hn : n.bits < 2 ^ 64) :
    Calls Try.prog 4 #[.agg #[a.v], .agg #[b.v], .agg #[c.v], .agg n.cells] w fun e w' => e = .returned (.bool true) ∧ Below w.heap.size w w' := by
  obtain ⟨hbox, hb0⟩ := box4_new w a b c n
  obtain ⟨aa, ca, xs⟩ := a
  obtain ⟨ab, cb, ys⟩ := b
  obtain ⟨ac, cc, zs⟩ := c
  obtain ⟨k1, n1, b1, t1, d1⟩ := n
  unfold TK.v Nd.cells at *
  simp only at *
  obtain ⟨na, hna⟩ : ∃ k, k = xs.length := ⟨_, rfl⟩
  obtain ⟨nb, hnb⟩ : ∃ k, k = ys.length := ⟨_, rfl⟩
  obtain ⟨nc, hnc⟩ : ∃ k, k = zs.length := ⟨_, rfl⟩
  rw [← hna, ← hnb, ← hnc] at hbox hb0 ⊢
  have H := Lib.hid (And.intro ha (And.intro hb (And.intro hc (And.intro hn (And.intro hna (And.intro hnb hnc))))))
  clear ha hb hc hn hna hnb hnc
  go_enter Try.func4, Try.ntmps4
  go_upto_region 1 with fail
  generalize ((((w.alloc (.cells #[.slice aa na ca] 24)).alloc (.cells #[.slice ab nb cb] 24)).alloc (.cells #[.slice ac nc cc] 24)).alloc (.cells #[.int .i64 k1, .int .i64 n1, .int .u64 b1, .string t1, .int .i64 d1] 32)) = W0 at hbox hb0 ⊢
  have hcells : ∀ V, Below W0.heap.size W0 V → V.cell? ⟨w.heap.size, 0, none⟩ = some (.slice aa na ca) ∧ V.cell? ⟨w.heap.size + 1, 0, none⟩ = some (.slice ab nb cb) ∧ V.cell? ⟨w.heap.size + 2, 0, none⟩ = some (.slice ac nc cc) ∧
      V.cell? ⟨w.heap.size + 3, 0, none⟩ = some (.int .i64 k1) ∧ V.cell? ⟨w.heap.size + 3, 1, none⟩ = some (.int .i64 n1) ∧ V.cell? ⟨w.heap.size + 3, 2, none⟩ = some (.int .u64 b1) ∧ V.cell? ⟨w.heap.size + 3, 3, none⟩ = some (.string t1) ∧ V.cell? ⟨w.heap.size + 3, 4, none⟩ = some (.int .i64 d1) := fun V hV => by
    obtain ⟨l1, l2, l3, l4⟩ := hbox.below hV
    unfold TK.v at l1 l2 l3
    unfold Nd.cells at l4
    simp only at l1 l2 l3 l4
    rw [← H.out.2.2.2.2.1] at l1
    rw [← H.out.2.2.2.2.2.1] at l2
    rw [← H.out.2.2.2.2.2.2] at l3
    exact ⟨l1.cell 0 rfl, l2.cell 0 rfl, l3.cell 0 rfl, l4.cell 0 rfl, l4.cell 1 rfl, l4.cell 2 rfl, l4.cell 3 rfl, l4.cell 4 rfl⟩
  have HS := Lib.hid hcells
  have HB0 := Lib.hid hb0
  clear hcells hbox hb0
  go_wp2_with fail
  refine (awakeT_any W0).mono ?_
  rintro e w1 ⟨rfl, hb1⟩
  obtain ⟨c0, c1, c2, -, -, -, c3, -⟩ := HS.out w1 hb1
  have hT : TIn w1 ⟨aa, ca, xs⟩ ∧ TIn w1 ⟨ab, cb, ys⟩ ∧ TIn w1 ⟨ac, cc, zs⟩ := by
    have hbw := HB0.out.trans (hb1.mono HB0.out.size)
    exact ⟨H.out.1.below hbw, H.out.2.1.below hbw, H.out.2.2.1.below hbw⟩
  have hrow := row_raw w1 [⟨aa, ca, xs⟩, ⟨ab, cb, ys⟩, ⟨ac, cc, zs⟩] (by
    intro t ht
    simp only [List.mem_cons, List.not_mem_nil, or_false] at ht
    rcases ht with rfl | rfl | rfl
    · exact hT.1
    · exact hT.2.1
    · exact hT.2.2)
  have hof := termsOf_any _ (some ⟨w1.heap.size, 0, none⟩) 3 _ hrow (by simp)
  have hbR : Below W0.heap.size W0 (w1.alloc (.cells #[.slice aa na ca, .slice ab nb cb, .slice ac nc cc] 24)) := hb1.alloc hb1.size _
  have hof' : Calls Try.prog 12 #[.slice (some ⟨w1.heap.size, 0, none⟩) 3 3, .int .i64 300] (w1.alloc (.cells #[.slice aa na ca, .slice ab nb cb, .slice ac nc cc] 24)) fun e w' => ∃ r : Nat, e = .returned (.int .i64 r) ∧ (r ≤ 300 → cost xs ≤ 300 ∧ cost ys ≤ 300 ∧ cost zs ≤ 300) ∧ r ≤ 2000000000000000 ∧ Below W0.heap.size W0 w' := by
    rw [H.out.2.2.2.2.1, H.out.2.2.2.2.2.1, H.out.2.2.2.2.2.2] at hbR ⊢
    exact hof.mono fun e w' ⟨r, h1, h2, h3, h4⟩ => ⟨r, h1, fun h => ⟨h2 h ⟨aa, ca, xs⟩ (by simp), h2 h ⟨ab, cb, ys⟩ (by simp), h2 h ⟨ac, cc, zs⟩ (by simp)⟩, h3, hbR.trans (h4.mono hbR.size)⟩
  have HO := Lib.hid hof'
  have HT1 := Lib.hid (And.intro hT hb1)
  clear hT hrow hof hbR hof' hb1
  go_wp2_with fail
  refine HO.out.mono ?_
  rintro e w2 ⟨r, rfl, hr, hr2, hb2⟩
  obtain ⟨-, -, -, -, -, -, d3, -⟩ := HS.out w2 hb2
  have HR := Lib.hid hr
  have HB2 := Lib.hid hb2
  clear hr hb2 c0 c1 c2 c3
  by_cases h3 : r ≤ 300
  rotate_left
  · have q1 : (300 : Int) < (r : Int) := by omega
    go_wp2_with fail
    go_ret
    exact ⟨rfl, HB0.out.trans (HB2.out.mono HB0.out.size)⟩
  have q1 : ¬ (300 : Int) < (r : Int) := by omega
  by_cases h4 : t1.size ≤ 300
  rotate_left
  · have q2 : (300 : Int) < (t1.size : Int) := by omega
    go_wp2_with fail
    go_ret
    exact ⟨rfl, HB0.out.trans (HB2.out.mono HB0.out.size)⟩
  have q2 : ¬ (300 : Int) < (t1.size : Int) := by omega
  have HCO := Lib.hid (HR.out h3)
  clear h3 HO HT1
  go_upto_region 5 with fail
  have hTA : ∀ V, Below W0.heap.size W0 V → TAt V aa xs ∧ TAt V ab ys ∧ TAt V ac zs := fun V hV => by
    have hbw := HB0.out.trans (hV.mono HB0.out.size)
    exact ⟨(H.out.1.below hbw).tat HCO.out.1, (H.out.2.1.below hbw).tat HCO.out.2.1, (H.out.2.2.1.below hbw).tat HCO.out.2.2⟩
  have up : ∀ {V : World} {v : Value}, Below W0.heap.size W0 V → ∀ e w', (e = Ending.returned v ∧ Below V.heap.size V w') → (e = Ending.returned v ∧ Below W0.heap.size W0 w') := fun hV e w' k => ⟨k.1, hV.trans (k.2.mono hV.size)⟩
  obtain ⟨X, hX⟩ : ∃ X, X = ordT xs ys := ⟨_, rfl⟩
  obtain ⟨Y, hY⟩ : ∃ Y, Y = ordT ys zs := ⟨_, rfl⟩
  obtain ⟨Z, hZ⟩ : ∃ Z, Z = ordT xs zs := ⟨_, rfl⟩
  have wx := H.out.1.words
  have wy := H.out.2.1.words
  have wz := H.out.2.2.1.words
  simp only at wx wy wz
  have kab : ∀ V, Below W0.heap.size W0 V → Calls Try.prog 13 #[.agg #[.slice aa na ca], .agg #[.slice ab nb cb]] V fun e w' => e = .returned (.int .i64 X) ∧ Below W0.heap.size W0 w' := fun V hV => by
    rw [H.out.2.2.2.2.1, H.out.2.2.2.2.2.1, hX]
    exact (orderT_any V aa ab ca cb xs ys (hTA V hV).1 (hTA V hV).2.1).mono (up hV)
  have kbc : ∀ V, Below W0.heap.size W0 V → Calls Try.prog 13 #[.agg #[.slice ab nb cb], .agg #[.slice ac nc cc]] V fun e w' => e = .returned (.int .i64 Y) ∧ Below W0.heap.size W0 w' := fun V hV => by
    rw [H.out.2.2.2.2.2.1, H.out.2.2.2.2.2.2, hY]
    exact (orderT_any V ab ac cb cc ys zs (hTA V hV).2.1 (hTA V hV).2.2).mono (up hV)
  have kba : ∀ V, Below W0.heap.size W0 V → Calls Try.prog 13 #[.agg #[.slice ab nb cb], .agg #[.slice aa na ca]] V fun e w' => e = .returned (.int .i64 (-X)) ∧ Below W0.heap.size W0 w' := fun V hV => by
    rw [H.out.2.2.2.2.1, H.out.2.2.2.2.2.1, hX, ordT_turn wx wy, Int.neg_neg]
    exact (orderT_any V ab aa cb ca ys xs (hTA V hV).2.1 (hTA V hV).1).mono (up hV)
  have kac : ∀ V, Below W0.heap.size W0 V → Calls Try.prog 13 #[.agg #[.slice aa na ca], .agg #[.slice ac nc cc]] V fun e w' => e = .returned (.int .i64 Z) ∧ Below W0.heap.size W0 w' := fun V hV => by
    rw [H.out.2.2.2.2.1, H.out.2.2.2.2.2.2, hZ]
    exact (orderT_any V aa ac ca cc xs zs (hTA V hV).1 (hTA V hV).2.2).mono (up hV)
  have kaa : ∀ V, Below W0.heap.size W0 V → Calls Try.prog 13 #[.agg #[.slice aa na ca], .agg #[.slice aa na ca]] V fun e w' => e = .returned (.int .i64 0) ∧ Below W0.heap.size W0 w' := fun V hV => by
    rw [H.out.2.2.2.2.1, ← ordT_self wx]
    exact (orderT_any V aa aa ca ca xs xs (hTA V hV).1 (hTA V hV).1).mono (up hV)
  have hxr := ordT_range wx wy
  rw [← hX] at hxr
  have htr : X ≤ 0 → Y ≤ 0 → Z ≤ 0 := fun h1 h2 => by rw [hX] at h1; rw [hY] at h2; rw [hZ]; exact ordT_tri wx wy wz h1 h2
  have KO := Lib.hid (And.intro kab (And.intro kbc (And.intro kba (And.intro kac kaa))))
  have KT := Lib.hid hTA
  have HX := Lib.hid (And.intro hX (And.intro wx (And.intro wy wz)))
  have HTR := Lib.hid htr
  have hB2 := HB2.out
  have d2 : Below W0.heap.size W0 w2.drew := hB2.drew
  obtain ⟨c0, c1, c2, -, -, -, -, -⟩ := HS.out w2 hB2
  clear hTA up kab kbc kba kac kaa hX hY hZ wx wy wz htr d3 q1 q2
  obtain ⟨x1, x2⟩ := hxr
  go_region_held3 (fun V => V.cell? ⟨w.heap.size, 0, none⟩ = some (.slice aa na ca) ∧ V.cell? ⟨w.heap.size + 1, 0, none⟩ = some (.slice ab nb cb) ∧ V.cell? ⟨w.heap.size + 2, 0, none⟩ = some (.slice ac nc cc)) (first | go_keep | exact ⟨(HS.out _ (by assumption)).1, (HS.out _ (by assumption)).2.1, (HS.out _ (by assumption)).2.2.1⟩)
    (first | (with_reducible refine (KO.out.1 _ (by assumption)).mono ?_; rintro e w3 ⟨rfl, hb3⟩) | (with_reducible refine (KO.out.2.1 _ (by assumption)).mono ?_; rintro e w4 ⟨rfl, hb4⟩))
  have HB4 := Lib.hid hb4
  clear c0 c1 c2 hb3 hb4 d2 hB2
  go_upto_region 6 with fail
  go_cut [68] from 167 (fun v W => v = .bool false ∧ Below W0.heap.size W0 W)
  case first =>
    obtain ⟨c0, c1, c2, -, -, -, -, -⟩ := HS.out w4 HB4.out
    have nX : (X != X) = false := by simp
    go_wp2_with fail
    refine (KO.out.2.2.1 _ HB4.out).mono ?_
    rintro e w5 ⟨rfl, hb5⟩
    clear c0 c1 c2
    obtain ⟨c0, c1, c2, -, -, -, -, -⟩ := HS.out w5 hb5
    have HB5 := Lib.hid hb5
    clear hb5
    by_cases hx : X ≤ 0
    · by_cases hy : Y ≤ 0
      · have hz := HTR.out hx hy
        have hz2 : ¬ 0 < Z := by omega
        go_wp2_with fail
        refine (KO.out.2.2.2.1 _ HB5.out).mono ?_
        rintro e w6 ⟨rfl, hb6⟩
        clear c0 c1 c2
        obtain ⟨c0, c1, c2, -, -, -, -, -⟩ := HS.out w6 hb6
        have HB6 := Lib.hid hb6
        clear hb6
        go_wp2_with fail
        refine (KO.out.2.2.2.2 _ HB6.out).mono ?_
        rintro e w7 ⟨rfl, hb7⟩
        have HB7 := Lib.hid hb7
        clear c0 c1 c2 hb7
        go_wp2_with fail
        go_meet
        case rel => exact ⟨congrArg Value.bool (by simp only [Bool.or_eq_false_iff, decide_eq_false_iff_not]; omega), HB7.out⟩
      · go_wp2_with fail
        refine (KO.out.2.2.2.2 _ HB5.out).mono ?_
        rintro e w7 ⟨rfl, hb7⟩
        have HB7 := Lib.hid hb7
        clear c0 c1 c2 hb7
        go_wp2_with fail
        go_meet
        case rel => exact ⟨congrArg Value.bool (by simp only [Bool.or_eq_false_iff, decide_eq_false_iff_not]; omega), HB7.out⟩
    · go_wp2_with fail
      refine (KO.out.2.2.2.2 _ HB5.out).mono ?_
      rintro e w7 ⟨rfl, hb7⟩
      have HB7 := Lib.hid hb7
      clear c0 c1 c2 hb7
      go_wp2_with fail
      go_meet
      case rel => exact ⟨congrArg Value.bool (by simp only [Bool.or_eq_false_iff, decide_eq_false_iff_not]; omega), HB7.out⟩
  case rest =>
    obtain ⟨rfl, hb8⟩ := hcut
    rename World => w8
    have HB8 := Lib.hid hb8
    clear hb8
    go_upto_region 8 with fail
    have up : ∀ {V : World} {v : Value}, Below W0.heap.size W0 V → ∀ e w', (e = Ending.returned v ∧ Below V.heap.size V w') → (e = Ending.returned v ∧ Below W0.heap.size W0 w') := fun hV e w' k => ⟨k.1, hV.trans (k.2.mono hV.size)⟩
    obtain ⟨Ra, hRa⟩ : ∃ R, R = rightB xs := ⟨_, rfl⟩
    obtain ⟨Rb, hRb⟩ : ∃ R, R = rightB ys := ⟨_, rfl⟩
    obtain ⟨Sm, hSm⟩ : ∃ R, R = sameN xs ys := ⟨_, rfl⟩
    have kra : ∀ V, Below W0.heap.size W0 V → Calls Try.prog 14 #[.agg #[.slice aa na ca]] V fun e w' => e = .returned (.bool Ra) ∧ Below W0.heap.size W0 w' := fun V hV => by
      rw [H.out.2.2.2.2.1, hRa]
      exact (rightT_any V aa ca xs (KT.out V hV).1 H.out.1.room).mono (up hV)
    have krb : ∀ V, Below W0.heap.size W0 V → Calls Try.prog 14 #[.agg #[.slice ab nb cb]] V fun e w' => e = .returned (.bool Rb) ∧ Below W0.heap.size W0 w' := fun V hV => by
      rw [H.out.2.2.2.2.2.1, hRb]
      exact (rightT_any V ab cb ys (KT.out V hV).2.1 H.out.2.1.room).mono (up hV)
    have ksm : ∀ V, Below W0.heap.size W0 V → Calls Try.prog 15 #[.agg #[.slice aa na ca], .agg #[.slice ab nb cb]] V fun e w' => e = .returned (.bool Sm) ∧ Below W0.heap.size W0 w' := fun V hV => by
      rw [H.out.2.2.2.2.1, H.out.2.2.2.2.2.1, hSm]
      exact (sameTerm_any V aa ab ca cb xs ys (KT.out V hV).1 (KT.out V hV).2.1).mono (up hV)
    have hrs : Ra = true → Rb = true → ((X == 0) : Bool) = Sm := fun h1 h2 => by
      rw [hSm, HX.out.1]
      exact right_same HX.out.2.1 HX.out.2.2.1 (by rw [← hRa]; exact h1) (by rw [← hRb]; exact h2)
    have KR := Lib.hid (And.intro kra (And.intro krb (And.intro ksm hrs)))
    clear up kra krb ksm hrs hRa hRb hSm
    obtain ⟨c0, c1, -, -, -, -, -, -⟩ := HS.out w8 HB8.out
    go_cut [82] from 167 (fun v W => v = .bool false ∧ Below W0.heap.size W0 W)
    case first =>
      go_wp2_with fail
      refine (KR.out.1 _ HB8.out).mono ?_
      rintro e w9 ⟨rfl, hb9⟩
      clear c0 c1
      cases Ra with
      | false =>
        have HB9 := Lib.hid hb9
        clear hb9
        go_wp2_with fail
        go_meet
        case rel => exact ⟨rfl, HB9.out⟩
      | true =>
        obtain ⟨c0, c1, -, -, -, -, -, -⟩ := HS.out w9 hb9
        have HB9 := Lib.hid hb9
        clear hb9
        go_wp2_with fail
        refine (KR.out.2.1 _ HB9.out).mono ?_
        rintro e w10 ⟨rfl, hb10⟩
        clear c0 c1
        cases Rb with
        | false =>
          have HB10 := Lib.hid hb10
          clear hb10
          go_wp2_with fail
          go_meet
          case rel => exact ⟨rfl, HB10.out⟩
        | true =>
          obtain ⟨c0, c1, -, -, -, -, -, -⟩ := HS.out w10 hb10
          have HB10 := Lib.hid hb10
          clear hb10
          have hse := KR.out.2.2.2 (by simp) (by simp)
          have hsn : (Sm != Sm) = false := by cases Sm <;> rfl
          go_wp2_with fail
          refine (KR.out.2.2.1 _ HB10.out).mono ?_
          rintro e w11 ⟨rfl, hb11⟩
          have HB11 := Lib.hid hb11
          clear c0 c1 hb11
          go_wp2_with fail
          go_meet
          case rel => exact ⟨rfl, HB11.out⟩
    case rest =>
      obtain ⟨rfl, hb12⟩ := hcut
      rename World => w12
      have HB12 := Lib.hid hb12
      clear hb12 c0 c1 KR
      go_upto_region 10 with fail
      have up : ∀ {V : World} {v : Value}, Below W0.heap.size W0 V → ∀ e w', (e = Ending.returned v ∧ Below V.heap.size V w') → (e = Ending.returned v ∧ Below W0.heap.size W0 w') := fun hV e w' k => ⟨k.1, hV.trans (k.2.mono hV.size)⟩
      obtain ⟨DA, hDA⟩ : ∃ D, D = deepT xs := ⟨_, rfl⟩
      obtain ⟨DB, hDB⟩ : ∃ D, D = deepT ys := ⟨_, rfl⟩
      obtain ⟨DC, hDC⟩ : ∃ D, D = deepT zs := ⟨_, rfl⟩
      obtain ⟨St, hSt⟩ : ∃ S, S = sameT xs ys := ⟨_, rfl⟩
      have kda : ∀ V, Below W0.heap.size W0 V → Calls Try.prog 16 #[.agg #[.slice aa na ca]] V fun e w' => e = .returned (.int .i64 DA) ∧ Below W0.heap.size W0 w' := fun V hV => by
        rw [hDA, H.out.2.2.2.2.1]
        exact (deep_any V aa xs.length ca (ksOf xs) (KT.out V hV).1.2.1 (KT.out V hV).1.ks).mono (up hV)
      have kdb : ∀ V, Below W0.heap.size W0 V → Calls Try.prog 16 #[.agg #[.slice ab nb cb]] V fun e w' => e = .returned (.int .i64 DB) ∧ Below W0.heap.size W0 w' := fun V hV => by
        rw [hDB, H.out.2.2.2.2.2.1]
        exact (deep_any V ab ys.length cb (ksOf ys) (KT.out V hV).2.1.2.1 (KT.out V hV).2.1.ks).mono (up hV)
      have kdc : ∀ V, Below W0.heap.size W0 V → Calls Try.prog 16 #[.agg #[.slice ac nc cc]] V fun e w' => e = .returned (.int .i64 DC) ∧ Below W0.heap.size W0 w' := fun V hV => by
        rw [hDC, H.out.2.2.2.2.2.2]
        exact (deep_any V ac zs.length cc (ksOf zs) (KT.out V hV).2.2.2.1 (KT.out V hV).2.2.ks).mono (up hV)
      have kst : ∀ V, Below W0.heap.size W0 V → Calls Try.prog 17 #[.agg #[.slice aa na ca], .agg #[.slice ab nb cb]] V fun e w' => e = .returned (.bool St) ∧ Below W0.heap.size W0 w' := fun V hV => by
        rw [H.out.2.2.2.2.1, H.out.2.2.2.2.2.1, hSt]
        exact (sameT_any V aa ab ca cb xs ys (KT.out V hV).1 (KT.out V hV).2.1).mono (up hV)
      have hst0 : DA = 0 ∨ DB = 0 → St = false := fun h => by
        cases hs : St with
        | false => rfl
        | true =>
          rw [hSt] at hs
          have := same_in hs
          rw [hDA, hDB, deep_zero, deep_zero, this.1, this.2] at h
          simp at h
      have hin : DA ≠ 0 → DB ≠ 0 → DC ≠ 0 → inO xs = true ∧ inO ys = true ∧ inO zs = true := fun h1 h2 h3 => by
        rw [hDA] at h1
        rw [hDB] at h2
        rw [hDC] at h3
        exact ⟨(deep_pos xs).1 (by omega), (deep_pos ys).1 (by omega), (deep_pos zs).1 (by omega)⟩
      have KD := Lib.hid (And.intro kda (And.intro kdb (And.intro kdc (And.intro kst (And.intro hst0 (And.intro hin hSt))))))
      clear up kda kdb kdc kst hst0 hin hDA hDB hDC hSt
      obtain ⟨c0, c1, c2, -, -, -, -, -⟩ := HS.out w12 HB12.out
      go_wp2_with fail
      refine (KD.out.1 _ HB12.out).mono ?_
      rintro e w13 ⟨rfl, hb13⟩
      clear c0 c1 c2
      obtain ⟨c0, c1, c2, -, -, -, -, -⟩ := HS.out w13 hb13
      have HB13 := Lib.hid hb13
      clear hb13
      by_cases hda : DA = 0
      · have e1 : ((DA : Int) == 0) = true := by simp [hda]
        have hs := KD.out.2.2.2.2.1 (.inl hda)
        subst hs
        clear hda
        go_wp2_with fail
        refine (KD.out.2.2.2.1 _ HB13.out).mono ?_
        rintro e w14 ⟨rfl, hb14⟩
        have HB14 := Lib.hid hb14
        clear c0 c1 c2 hb14
        go_wp2_with fail
        go_ret
        exact ⟨rfl, HB0.out.trans (HB14.out.mono HB0.out.size)⟩
      have e1 : ((DA : Int) == 0) = false := by simp [hda]
      have e1b : (0 : Int) < (DA : Int) := by omega
      go_wp2_with fail
      refine (KD.out.2.1 _ HB13.out).mono ?_
      rintro e w14 ⟨rfl, hb14⟩
      clear c0 c1 c2
      obtain ⟨c0, c1, c2, -, -, -, -, -⟩ := HS.out w14 hb14
      have HB14 := Lib.hid hb14
      clear hb14
      by_cases hdb : DB = 0
      · have e2 : ((DB : Int) == 0) = true := by simp [hdb]
        have hs := KD.out.2.2.2.2.1 (.inr hdb)
        subst hs
        clear hdb
        go_wp2_with fail
        refine (KD.out.2.2.2.1 _ HB14.out).mono ?_
        rintro e w15 ⟨rfl, hb15⟩
        have HB15 := Lib.hid hb15
        clear c0 c1 c2 hb15
        go_wp2_with fail
        go_ret
        exact ⟨rfl, HB0.out.trans (HB15.out.mono HB0.out.size)⟩
      have e2 : ((DB : Int) == 0) = false := by simp [hdb]
      have e2b : (0 : Int) < (DB : Int) := by omega
      go_wp2_with fail
      refine (KD.out.2.2.1 _ HB14.out).mono ?_
      rintro e w15 ⟨rfl, hb15⟩
      clear c0 c1 c2
      obtain ⟨c0, c1, c2, -, -, -, -, -⟩ := HS.out w15 hb15
      have HB15 := Lib.hid hb15
      clear hb15
      by_cases hdc : DC = 0
      · have e3 : ((DC : Int) == 0) = true := by simp [hdc]
        clear hdc
        go_wp2_with fail
        refine (KD.out.2.2.2.1 _ HB15.out).mono ?_
        rintro e w16 ⟨rfl, hb16⟩
        clear c0 c1 c2
        obtain ⟨c0, c1, c2, -, -, -, -, -⟩ := HS.out w16 hb16
        have HB16 := Lib.hid hb16
        clear hb16
        cases St with
        | false =>
          clear c0 c1 c2
          go_wp2_with fail
          go_ret
          exact ⟨rfl, HB0.out.trans (HB16.out.mono HB0.out.size)⟩
        | true =>
          go_wp2_with fail
          refine (KD.out.1 _ HB16.out).mono ?_
          rintro e w17 ⟨rfl, hb17⟩
          clear c0 c1 c2
          obtain ⟨c0, c1, c2, -, -, -, -, -⟩ := HS.out w17 hb17
          have HB17 := Lib.hid hb17
          clear hb17
          go_wp2_with fail
          refine (KD.out.2.1 _ HB17.out).mono ?_
          rintro e w18 ⟨rfl, hb18⟩
          have HB18 := Lib.hid hb18
          clear c0 c1 c2 hb18
          go_wp2_with fail
          go_ret
          exact ⟨show Ending.returned (.bool (decide (0 < DB))) = _ by rw [decide_eq_true (by omega)], HB0.out.trans (HB18.out.mono HB0.out.size)⟩
      have e3 : ((DC : Int) == 0) = false := by simp [hdc]
      have HIN := Lib.hid (KD.out.2.2.2.2.2.1 hda hdb hdc)
      go_upto_region 12 with fail
      clear e1 e1b e2 e2b e3 hda hdb hdc
      clear c0 c1 c2
      refine wp_region_held (S := Below w15.heap.size w15) (by kernel_rfl) ?_
      change wpAnyH _ _ _ _ _ 16 _ _ (World.drew w15)
      have hcur : Below w15.heap.size w15 w15.drew := (Below.refl _ _).drew
      refine held_take (i := 0) (v := (.agg #[.int .i64 k1, .int .i64 n1, .int .u64 b1, .string t1, .int .i64 d1])) rfl 110 rfl (by kernel_rfl) (by kernel_rfl) (by kernel_rfl) (fun _ _ _ h => h) (by rfl) (by intro w' hS'; obtain ⟨x0, x1, x2, x3, x4, x5, x6, x7⟩ := HS.out w' (HB15.out.trans (hS'.mono HB15.out.size)); unfold execOp; simp [go_sem, x3, x4, x5, x6, x7]) hcur _ rfl ?_
      simp only [Act.put, List.setIfInBounds_toArray, List.set_cons_zero, List.set_cons_succ]
      refine held_take (i := 1) (v := (.agg #[.slice ac nc cc])) rfl 111 rfl (by kernel_rfl) (by kernel_rfl) (by kernel_rfl) (fun _ _ _ h => h) (by rfl) (by intro w' hS'; obtain ⟨x0, x1, x2, x3, x4, x5, x6, x7⟩ := HS.out w' (HB15.out.trans (hS'.mono HB15.out.size)); unfold execOp; simp [go_sem, x2]) hcur _ rfl ?_
      simp only [Act.put, List.setIfInBounds_toArray, List.set_cons_zero, List.set_cons_succ]
      refine held_take (i := 2) (v := (.agg #[.slice aa na ca])) rfl 112 rfl (by kernel_rfl) (by kernel_rfl) (by kernel_rfl) (fun _ _ _ h => h) (by rfl) (by intro w' hS'; obtain ⟨x0, x1, x2, x3, x4, x5, x6, x7⟩ := HS.out w' (HB15.out.trans (hS'.mono HB15.out.size)); unfold execOp; simp [go_sem, x0]) hcur _ rfl ?_
      simp only [Act.put, List.setIfInBounds_toArray, List.set_cons_zero, List.set_cons_succ]
      refine held_take (i := 3) (v := (.agg #[.slice ac nc cc])) rfl 113 rfl (by kernel_rfl) (by kernel_rfl) (by kernel_rfl) (fun _ _ _ h => h) (by rfl) (by intro w' hS'; obtain ⟨x0, x1, x2, x3, x4, x5, x6, x7⟩ := HS.out w' (HB15.out.trans (hS'.mono HB15.out.size)); unfold execOp; simp [go_sem, x2]) hcur _ rfl ?_
      simp only [Act.put, List.setIfInBounds_toArray, List.set_cons_zero, List.set_cons_succ]
      refine held_take (i := 6) (v := (.agg #[.int .i64 k1, .int .i64 n1, .int .u64 b1, .string t1, .int .i64 d1])) rfl 116 rfl (by kernel_rfl) (by kernel_rfl) (by kernel_rfl) (fun _ _ _ h => h) (by rfl) (by intro w' hS'; obtain ⟨x0, x1, x2, x3, x4, x5, x6, x7⟩ := HS.out w' (HB15.out.trans (hS'.mono HB15.out.size)); unfold execOp; simp [go_sem, x3, x4, x5, x6, x7]) hcur _ rfl ?_
      simp only [Act.put, List.setIfInBounds_toArray, List.set_cons_zero, List.set_cons_succ]
      refine held_take (i := 7) (v := (.agg #[.slice ac nc cc])) rfl 117 rfl (by kernel_rfl) (by kernel_rfl) (by kernel_rfl) (fun _ _ _ h => h) (by rfl) (by intro w' hS'; obtain ⟨x0, x1, x2, x3, x4, x5, x6, x7⟩ := HS.out w' (HB15.out.trans (hS'.mono HB15.out.size)); unfold execOp; simp [go_sem, x2]) hcur _ rfl ?_
      simp only [Act.put, List.setIfInBounds_toArray, List.set_cons_zero, List.set_cons_succ]
      refine held_take (i := 8) (v := (.agg #[.slice ab nb cb])) rfl 118 rfl (by kernel_rfl) (by kernel_rfl) (by kernel_rfl) (fun _ _ _ h => h) (by rfl) (by intro w' hS'; obtain ⟨x0, x1, x2, x3, x4, x5, x6, x7⟩ := HS.out w' (HB15.out.trans (hS'.mono HB15.out.size)); unfold execOp; simp [go_sem, x1]) hcur _ rfl ?_
      simp only [Act.put, List.setIfInBounds_toArray, List.set_cons_zero, List.set_cons_succ]
      refine held_take (i := 9) (v := (.agg #[.slice aa na ca])) rfl 119 rfl (by kernel_rfl) (by kernel_rfl) (by kernel_rfl) (fun _ _ _ h => h) (by rfl) (by intro w' hS'; obtain ⟨x0, x1, x2, x3, x4, x5, x6, x7⟩ := HS.out w' (HB15.out.trans (hS'.mono HB15.out.size)); unfold execOp; simp [go_sem, x0]) hcur _ rfl ?_
      simp only [Act.put, List.setIfInBounds_toArray, List.set_cons_zero, List.set_cons_succ]
      have hlen : xs.length ≤ 300 ∧ ys.length ≤ 300 ∧ zs.length ≤ 300 := ⟨Nat.le_trans (cost_len xs) HCO.out.1, Nat.le_trans (cost_len ys) HCO.out.2.1, Nat.le_trans (cost_len zs) HCO.out.2.2⟩
      have hts : ∀ W, Below w15.heap.size w15 W → ∀ t ∈ [(⟨aa, ca, xs⟩ : TK), ⟨ab, cb, ys⟩, ⟨ac, cc, zs⟩], TAt W t.a t.xs ∧ t.xs.length ≤ t.c ∧ TxtIn t.xs := fun W hW t ht => by
        have hW0 := HB15.out.trans (hW.mono HB15.out.size)
        simp only [List.mem_cons, List.not_mem_nil, or_false] at ht
        rcases ht with rfl | rfl | rfl
        · exact ⟨(KT.out W hW0).1, H.out.1.room, H.out.1.txtIn⟩
        · exact ⟨(KT.out W hW0).2.1, H.out.2.1.room, H.out.2.1.txtIn⟩
        · exact ⟨(KT.out W hW0).2.2, H.out.2.2.1.room, H.out.2.2.1.txtIn⟩
      have hjn : ∀ (l : List TK) (W : World) (g : Nat), (∀ t ∈ l, t ∈ [(⟨aa, ca, xs⟩ : TK), ⟨ab, cb, ys⟩, ⟨ac, cc, zs⟩]) → l.length ≤ 3 → Below w15.heap.size w15 W → Lies W g (l.map TK.v).toArray 24 →
          Calls Try.prog 18 #[.agg #[.int .i64 k1, .int .i64 n1, .int .u64 b1, .string t1, .int .i64 d1], .slice (some ⟨g, 0, none⟩) l.length l.length] W fun e w' => ∃ v, e = .returned (.agg #[v]) ∧ OwnT w' 0 v (joinL ⟨k1, n1, b1, t1, d1⟩ (l.map TK.xs)) ∧ Below W.heap.size W w' := fun l W g hl hl3 hW hLie => by
        have hfl : (l.map TK.xs).flatten.length ≤ l.length * 300 := by
          clear hl3 hLie
          induction l with
          | nil => simp
          | cons t l ih =>
            have h1 := hl t (by simp)
            have h2 := ih (fun t ht => hl t (by simp [ht]))
            simp only [List.map_cons, List.flatten_cons, List.length_append, List.length_cons]
            have h3 : t.xs.length ≤ 300 := by
              simp only [List.mem_cons, List.not_mem_nil, or_false] at h1
              rcases h1 with rfl | rfl | rfl
              · exact hlen.1
              · exact hlen.2.1
              · exact hlen.2.2
            omega
        have := join_any W ⟨k1, n1, b1, t1, d1⟩ (some ⟨g, 0, none⟩) l.length l (ts_of hLie fun t ht => hts W hW t (hl t ht)) (by simp only; omega) (by omega) (by omega)
        exact this.mono fun e w' ⟨v, h1, h2, h3⟩ => ⟨v, h1, h2.mono (Nat.zero_le _), h3⟩
      have HJN := Lib.hid hjn
      refine jpair_any w15 #[.slice ac nc cc, .slice aa na ca, .slice ac nc cc] #[.slice ac nc cc, .slice ab nb cb, .slice aa na ca] 3 3 (joinL ⟨k1, n1, b1, t1, d1⟩ [zs, xs, zs]) (joinL ⟨k1, n1, b1, t1, d1⟩ [zs, ys, xs]) ⟨4, 5, 10, 11, 12, 13, 14, 15⟩ (fun b1 c1 b2 c2 a1 a2 d1 d2 => #[true, true, true, true, b1, c1, true, true, true, true, b2, c2, a1, a2, d1, d2]) _ 114 115 120 121 11 12
        (by decide) (by intro s hs; show s < 167; simp only [List.mem_cons, List.not_mem_nil, or_false] at hs; rcases hs with rfl | rfl | rfl | rfl | rfl | rfl <;> decide) (.agg #[.int .i64 k1, .int .i64 n1, .int .u64 b1, .string t1, .int .i64 d1]) _ _ _ _ _ _ _ _
        rfl rfl rfl (fun f V => by kernel_rfl) rfl rfl rfl (fun f V => by kernel_rfl) rfl rfl rfl (fun f u V hu => by subst hu; kernel_rfl) rfl rfl rfl (fun f u V hu => by subst hu; kernel_rfl)
        rfl rfl rfl rfl rfl rfl rfl rfl rfl rfl rfl rfl rfl rfl rfl rfl (by kernel_rfl) (fun _ _ _ _ _ _ _ => rfl) (fun _ _ _ _ _ _ _ => rfl) (fun _ _ _ _ _ _ _ => rfl) (fun _ _ _ _ _ _ _ => rfl) (fun _ _ _ _ _ _ _ => rfl) (fun _ _ _ _ _ _ _ => rfl) (fun _ _ _ _ _ _ _ => rfl) (fun _ _ _ _ _ _ _ => rfl)
        ?hc1 ?hc2 ?hQ _ hcur _ (by decide)
      case hc1 =>
        intro W g hW hL
        rw [H.out.2.2.2.2.1, H.out.2.2.2.2.2.2] at hL
        exact HJN.out [⟨ac, cc, zs⟩, ⟨aa, ca, xs⟩, ⟨ac, cc, zs⟩] W g (by simp) (by simp) hW hL
      case hc2 =>
        intro W g hW hL
        rw [H.out.2.2.2.2.1, H.out.2.2.2.2.2.1, H.out.2.2.2.2.2.2] at hL
        exact HJN.out [⟨ac, cc, zs⟩, ⟨ab, cb, ys⟩, ⟨aa, ca, xs⟩] W g (by simp) (by simp) hW hL
      intro f g1 g2 v1 v2 w16 hg1 hg2 y1 y2 o1 o2 hb16 hf1 hf2
      simp only [putF, Act.put, List.setIfInBounds_toArray, List.set_cons_zero, List.set_cons_succ, hf1, hf2]
      have hkk : ∀ ls : List (List Nd), (∀ l ∈ ls, l = xs ∨ l = ys ∨ l = zs) → ls.length ≤ 3 → 1 + ls.flatten.length ≤ 1000000 ∧ ls.length ≤ 1000000 ∧ ∀ l ∈ ls, ∀ x ∈ l, x.kids ≤ 9223372036854775807 := fun ls h h3 => by
        have hfl : ls.flatten.length ≤ ls.length * 300 := by
          clear h3
          induction ls with
          | nil => simp
          | cons t l ih =>
            have h1 := h t (by simp)
            have h2 := ih (fun t ht => h t (by simp [ht]))
            simp only [List.flatten_cons, List.length_append, List.length_cons]
            have h3 : t.length ≤ 300 := by
              rcases h1 with rfl | rfl | rfl
              · exact hlen.1
              · exact hlen.2.1
              · exact hlen.2.2
            omega
        refine ⟨by omega, by omega, fun l hl x hx => ?_⟩
        rcases h l hl with rfl | rfl | rfl
        · exact H.out.1.kids x hx
        · exact H.out.2.1.kids x hx
        · exact H.out.2.2.1.kids x hx
      have HKK := Lib.hid hkk
      have HL1 := Lib.hid (And.intro y1 (And.intro y2 (And.intro o1 o2)))
      have HB16 := Lib.hid (HB15.out.trans (hb16.mono HB15.out.size))
      have HB156 := Lib.hid hb16
      clear hkk y1 y2 o1 o2 hb16 hf1 hf2 hg1 hg2 hlen hts hjn hcur
      go_upto_region 13 with fail
      refine wp_region_held (S := Below w16.heap.size w16) (by kernel_rfl) ?_
      change wpAnyH _ _ _ _ _ 14 _ _ (World.drew w16)
      have hcur : Below w16.heap.size w16 w16.drew := (Below.refl _ _).drew
      refine held_take (i := 0) (v := (.agg #[.int .i64 k1, .int .i64 n1, .int .u64 b1, .string t1, .int .i64 d1])) rfl 122 rfl (by kernel_rfl) (by kernel_rfl) (by kernel_rfl) (fun _ _ _ h => h) (by rfl) (by intro w' hS'; obtain ⟨x0, x1, x2, x3, x4, x5, x6, x7⟩ := HS.out w' (HB16.out.trans (hS'.mono HB16.out.size)); unfold execOp; simp [go_sem, x3, x4, x5, x6, x7]) hcur _ rfl ?_
      simp only [Act.put, List.setIfInBounds_toArray, List.set_cons_zero, List.set_cons_succ]
      refine held_take (i := 1) (v := (.agg #[.slice ac nc cc])) rfl 123 rfl (by kernel_rfl) (by kernel_rfl) (by kernel_rfl) (fun _ _ _ h => h) (by rfl) (by intro w' hS'; obtain ⟨x0, x1, x2, x3, x4, x5, x6, x7⟩ := HS.out w' (HB16.out.trans (hS'.mono HB16.out.size)); unfold execOp; simp [go_sem, x2]) hcur _ rfl ?_
      simp only [Act.put, List.setIfInBounds_toArray, List.set_cons_zero, List.set_cons_succ]
      refine held_take (i := 2) (v := (.agg #[.slice aa na ca])) rfl 124 rfl (by kernel_rfl) (by kernel_rfl) (by kernel_rfl) (fun _ _ _ h => h) (by rfl) (by intro w' hS'; obtain ⟨x0, x1, x2, x3, x4, x5, x6, x7⟩ := HS.out w' (HB16.out.trans (hS'.mono HB16.out.size)); unfold execOp; simp [go_sem, x0]) hcur _ rfl ?_
      simp only [Act.put, List.setIfInBounds_toArray, List.set_cons_zero, List.set_cons_succ]
      refine held_take (i := 5) (v := (.agg #[.int .i64 k1, .int .i64 n1, .int .u64 b1, .string t1, .int .i64 d1])) rfl 127 rfl (by kernel_rfl) (by kernel_rfl) (by kernel_rfl) (fun _ _ _ h => h) (by rfl) (by intro w' hS'; obtain ⟨x0, x1, x2, x3, x4, x5, x6, x7⟩ := HS.out w' (HB16.out.trans (hS'.mono HB16.out.size)); unfold execOp; simp [go_sem, x3, x4, x5, x6, x7]) hcur _ rfl ?_
      simp only [Act.put, List.setIfInBounds_toArray, List.set_cons_zero, List.set_cons_succ]
      refine held_take (i := 6) (v := (.agg #[.slice ac nc cc])) rfl 128 rfl (by kernel_rfl) (by kernel_rfl) (by kernel_rfl) (fun _ _ _ h => h) (by rfl) (by intro w' hS'; obtain ⟨x0, x1, x2, x3, x4, x5, x6, x7⟩ := HS.out w' (HB16.out.trans (hS'.mono HB16.out.size)); unfold execOp; simp [go_sem, x2]) hcur _ rfl ?_
      simp only [Act.put, List.setIfInBounds_toArray, List.set_cons_zero, List.set_cons_succ]
      refine held_take (i := 7) (v := (.agg #[.slice ab nb cb])) rfl 129 rfl (by kernel_rfl) (by kernel_rfl) (by kernel_rfl) (fun _ _ _ h => h) (by rfl) (by intro w' hS'; obtain ⟨x0, x1, x2, x3, x4, x5, x6, x7⟩ := HS.out w' (HB16.out.trans (hS'.mono HB16.out.size)); unfold execOp; simp [go_sem, x1]) hcur _ rfl ?_
      simp only [Act.put, List.setIfInBounds_toArray, List.set_cons_zero, List.set_cons_succ]
      refine jpair_any w16 #[.slice ac nc cc, .slice aa na ca] #[.slice ac nc cc, .slice ab nb cb] 2 2 (joinL ⟨k1, n1, b1, t1, d1⟩ [zs, xs]) (joinL ⟨k1, n1, b1, t1, d1⟩ [zs, ys]) ⟨3, 4, 8, 9, 10, 11, 12, 13⟩ (fun b1 c1 b2 c2 a1 a2 d1 d2 => #[true, true, true, b1, c1, true, true, true, b2, c2, a1, a2, d1, d2]) _ 125 126 130 131 13 14
        (by decide) (by intro s hs; show s < 167; simp only [List.mem_cons, List.not_mem_nil, or_false] at hs; rcases hs with rfl | rfl | rfl | rfl | rfl | rfl <;> decide) (.agg #[.int .i64 k1, .int .i64 n1, .int .u64 b1, .string t1, .int .i64 d1]) _ _ _ _ _ _ _ _
        rfl rfl rfl (fun f V => by kernel_rfl) rfl rfl rfl (fun f V => by kernel_rfl) rfl rfl rfl (fun f u V hu => by subst hu; kernel_rfl) rfl rfl rfl (fun f u V hu => by subst hu; kernel_rfl)
        rfl rfl rfl rfl rfl rfl rfl rfl rfl rfl rfl rfl rfl rfl rfl rfl (by kernel_rfl) (fun _ _ _ _ _ _ _ => rfl) (fun _ _ _ _ _ _ _ => rfl) (fun _ _ _ _ _ _ _ => rfl) (fun _ _ _ _ _ _ _ => rfl) (fun _ _ _ _ _ _ _ => rfl) (fun _ _ _ _ _ _ _ => rfl) (fun _ _ _ _ _ _ _ => rfl) (fun _ _ _ _ _ _ _ => rfl)
        ?hd1 ?hd2 ?hE _ hcur _ (by decide)
      case hd1 =>
        intro W g hW hL
        rw [H.out.2.2.2.2.1, H.out.2.2.2.2.2.2] at hL
        exact HJN.out [⟨ac, cc, zs⟩, ⟨aa, ca, xs⟩] W g (by simp) (by simp) (HB156.out.trans (hW.mono HB156.out.size)) hL
      case hd2 =>
        intro W g hW hL
        rw [H.out.2.2.2.2.2.1, H.out.2.2.2.2.2.2] at hL
        exact HJN.out [⟨ac, cc, zs⟩, ⟨ab, cb, ys⟩] W g (by simp) (by simp) (HB156.out.trans (hW.mono HB156.out.size)) hL
      intro f3 g3 g4 v3 v4 w17 hg3 hg4 y3 y4 o3 o4 hb17 hf3 hf4
      simp only [putF, Act.put, List.setIfInBounds_toArray, List.set_cons_zero, List.set_cons_succ, hf3, hf4]
      have y1 := HL1.out.1.below hb17 HL1.out.1.lt
      have y2 := HL1.out.2.1.below hb17 HL1.out.2.1.lt
      have o1 := HL1.out.2.2.1.kept hb17
      have o2 := HL1.out.2.2.2.kept hb17
      have HB17 := Lib.hid (HB16.out.trans (hb17.mono HB16.out.size))
      obtain ⟨pa, pc, rfl, tp⟩ := own_term o1 (HKK.out [zs, xs, zs] (by simp) (by simp)).1 (by simp) (HKK.out [zs, xs, zs] (by simp) (by simp)).2.2
      obtain ⟨qa, qc, rfl, tq⟩ := own_term o2 (HKK.out [zs, ys, xs] (by simp) (by simp)).1 (by simp) (HKK.out [zs, ys, xs] (by simp) (by simp)).2.2
      obtain ⟨ra, rc, rfl, tr⟩ := own_term o3 (HKK.out [zs, xs] (by simp) (by simp)).1 (by simp) (HKK.out [zs, xs] (by simp) (by simp)).2.2
      obtain ⟨sa, sc, rfl, ts⟩ := own_term o4 (HKK.out [zs, ys] (by simp) (by simp)).1 (by simp) (HKK.out [zs, ys] (by simp) (by simp)).2.2
      have hlaw := join_laws ⟨k1, n1, b1, t1, d1⟩ H.out.2.2.2.1 HIN.out.1 HIN.out.2.1 HIN.out.2.2 HX.out.2.1 HX.out.2.2.1 HX.out.2.2.2
      rw [← HX.out.1] at hlaw
      obtain ⟨P, hP⟩ : ∃ P, P = joinL ⟨k1, n1, b1, t1, d1⟩ [zs, xs, zs] := ⟨_, rfl⟩
      obtain ⟨Qq, hQq⟩ : ∃ P, P = joinL ⟨k1, n1, b1, t1, d1⟩ [zs, ys, xs] := ⟨_, rfl⟩
      obtain ⟨R, hR⟩ : ∃ P, P = joinL ⟨k1, n1, b1, t1, d1⟩ [zs, xs] := ⟨_, rfl⟩
      obtain ⟨T, hT⟩ : ∃ P, P = joinL ⟨k1, n1, b1, t1, d1⟩ [zs, ys] := ⟨_, rfl⟩
      obtain ⟨Zz, hZz⟩ : ∃ P, P = joinL ⟨k1, n1, b1, t1, d1⟩ [] := ⟨_, rfl⟩
      rw [← hP, ← hQq, ← hR, ← hT, ← hZz] at hlaw
      rw [← hP] at y1 tp
      rw [← hQq] at y2 tq
      rw [← hR] at y3 tr
      rw [← hT] at y4 ts
      have hst := KD.out.2.2.2.2.2.2
      have hsx : St = ((X == 0) : Bool) := by
        rw [hst, HX.out.1]
        unfold sameT
        rw [HIN.out.1, Bool.true_and]
      have HG := Lib.hid (And.intro y1 (And.intro y2 (And.intro y3 (And.intro y4 (And.intro tp (And.intro tq (And.intro tr (And.intro ts (And.intro hlaw (And.intro hZz hsx))))))))))
      clear y1 y2 y3 y4 tp tq tr ts o1 o2 o3 o4 hlaw hst hsx hZz hP hQq hR hT hb17 hf3 hf4 hg3 hg4 hcur
      obtain ⟨np, hnp⟩ : ∃ k, k = P.length := ⟨_, rfl⟩
      obtain ⟨nq, hnq⟩ : ∃ k, k = Qq.length := ⟨_, rfl⟩
      obtain ⟨nr, hnr⟩ : ∃ k, k = R.length := ⟨_, rfl⟩
      obtain ⟨nt, hnt⟩ : ∃ k, k = T.length := ⟨_, rfl⟩
      have hcell : ∀ V, Below w17.heap.size w17 V → V.cell? ⟨g1, 0, none⟩ = some (.slice pa np pc) ∧ V.cell? ⟨g2, 0, none⟩ = some (.slice qa nq qc) ∧ V.cell? ⟨g3, 0, none⟩ = some (.slice ra nr rc) ∧ V.cell? ⟨g4, 0, none⟩ = some (.slice sa nt sc) := fun V hV => by
        rw [hnp, hnq, hnr, hnt]
        exact ⟨(HG.out.1.below hV HG.out.1.lt).cell 0 rfl, (HG.out.2.1.below hV HG.out.2.1.lt).cell 0 rfl, (HG.out.2.2.1.below hV HG.out.2.2.1.lt).cell 0 rfl, (HG.out.2.2.2.1.below hV HG.out.2.2.2.1.lt).cell 0 rfl⟩
      have up : ∀ {V : World} {v : Value}, Below w17.heap.size w17 V → ∀ e w', (e = Ending.returned v ∧ Below V.heap.size V w') → (e = Ending.returned v ∧ Below w17.heap.size w17 w') := fun hV e w' k => ⟨k.1, hV.trans (k.2.mono hV.size)⟩
      have kpq : X ≠ 0 → ∀ V, Below w17.heap.size w17 V → Calls Try.prog 13 #[.agg #[.slice pa np pc], .agg #[.slice qa nq qc]] V fun e w' => e = .returned (.int .i64 X) ∧ Below w17.heap.size w17 w' := fun hX0 V hV => by
        rw [hnp, hnq, ← HG.out.2.2.2.2.2.2.2.2.1.1 hX0]
        exact (orderT_any V pa qa pc qc P Qq (HG.out.2.2.2.2.1.below hV (Nat.le_refl _)) (HG.out.2.2.2.2.2.1.below hV (Nat.le_refl _))).mono (up hV)
      have krs : ∀ V, Below w17.heap.size w17 V → Calls Try.prog 13 #[.agg #[.slice ra nr rc], .agg #[.slice sa nt sc]] V fun e w' => e = .returned (.int .i64 X) ∧ Below w17.heap.size w17 w' := fun V hV => by
        rw [hnr, hnt, ← HG.out.2.2.2.2.2.2.2.2.1.2.1]
        exact (orderT_any V ra sa rc sc R T (HG.out.2.2.2.2.2.2.1.below hV (Nat.le_refl _)) (HG.out.2.2.2.2.2.2.2.1.below hV (Nat.le_refl _))).mono (up hV)
      have krp : ∀ V, Below w17.heap.size w17 V → Calls Try.prog 13 #[.agg #[.slice ra nr rc], .agg #[.slice pa np pc]] V fun e w' => e = .returned (.int .i64 (-1)) ∧ Below w17.heap.size w17 w' := fun V hV => by
        rw [hnr, hnp, ← HG.out.2.2.2.2.2.2.2.2.1.2.2.1]
        exact (orderT_any V ra pa rc pc R P (HG.out.2.2.2.2.2.2.1.below hV (Nat.le_refl _)) (HG.out.2.2.2.2.1.below hV (Nat.le_refl _))).mono (up hV)
      have kst : ∀ V, Below w17.heap.size w17 V → Calls Try.prog 17 #[.agg #[.slice aa na ca], .agg #[.slice ab nb cb]] V fun e w' => e = .returned (.bool St) ∧ Below w17.heap.size w17 w' := fun V hV => by
        have hV0 := HB17.out.trans (hV.mono HB17.out.size)
        have := sameT_any V aa ab ca cb xs ys (KT.out V hV0).1 (KT.out V hV0).2.1
        rw [← KD.out.2.2.2.2.2.2, ← H.out.2.2.2.2.1, ← H.out.2.2.2.2.2.1] at this
        exact this.mono (up hV)
      have kzs : ∀ V za zc, Below w17.heap.size w17 V → TAt V za Zz → Calls Try.prog 13 #[.agg #[.slice za Zz.length zc], .agg #[.slice sa nt sc]] V fun e w' => e = .returned (.int .i64 (-1)) ∧ Below w17.heap.size w17 w' := fun V za zc hV hz => by
        rw [hnt, ← HG.out.2.2.2.2.2.2.2.2.1.2.2.2]
        exact (orderT_any V za sa zc sc Zz T hz (HG.out.2.2.2.2.2.2.2.1.below hV (Nat.le_refl _))).mono (up hV)
      have hb17r := Below.refl w17.heap.size w17
      have K17 := Lib.hid (And.intro hcell (And.intro kpq (And.intro krs (And.intro krp (And.intro kst kzs)))))
      have hsx := HG.out.2.2.2.2.2.2.2.2.2.2
      have HSX := Lib.hid hsx
      clear hcell up kpq krs krp kst kzs hnp hnq hnr hnt hsx
      go_upto_region 14 with fail
      obtain ⟨e1, e2, e3, e4⟩ := K17.out.1 w17 hb17r
      obtain ⟨c0, c1, -, -, -, -, -, -⟩ := HS.out w17 HB17.out
      have HR17 := Lib.hid hb17r
      clear hb17r
      go_cut [155] from 167 (fun v W => v = .bool false ∧ Below w17.heap.size w17 W)
      case first =>
        have nX : (X != X) = false := by simp
        have nS : (St != ((X == 0) : Bool)) = false := by rw [HSX.out]; cases ((X == 0) : Bool) <;> rfl
        by_cases hX0 : X = 0
        · have x0 : (X != 0) = false := by simp [hX0]
          clear hX0
          go_wp2_with fail
          refine (K17.out.2.2.1 _ HR17.out).mono ?_
          rintro e w18 ⟨rfl, hb18⟩
          clear e1 e2 e3 e4 c0 c1
          obtain ⟨c0, c1, -, -, -, -, -, -⟩ := HS.out w18 (HB17.out.trans (hb18.mono HB17.out.size))
          have HB18 := Lib.hid hb18
          clear hb18
          go_wp2_with fail
          refine (K17.out.2.2.2.2.1 _ HB18.out).mono ?_
          rintro e w19 ⟨rfl, hb19⟩
          have HB19 := Lib.hid hb19
          clear c0 c1 hb19
          go_wp2_with fail
          go_meet
          case rel => exact ⟨congrArg Value.bool (by rw [HSX.out]; simp), HB19.out⟩
        · have x0 : (X != 0) = true := by simp [hX0]
          have HPQ := Lib.hid (K17.out.2.1 hX0)
          clear hX0
          go_wp2_with fail
          refine (HPQ.out _ HR17.out).mono ?_
          rintro e w18 ⟨rfl, hb18⟩
          clear e1 e2 e3 e4 c0 c1
          obtain ⟨e1, e2, e3, e4⟩ := K17.out.1 w18 hb18
          have HB18 := Lib.hid hb18
          clear hb18
          go_wp2_with fail
          refine (K17.out.2.2.1 _ HB18.out).mono ?_
          rintro e w19 ⟨rfl, hb19⟩
          clear e1 e2 e3 e4
          obtain ⟨c0, c1, -, -, -, -, -, -⟩ := HS.out w19 (HB17.out.trans (hb19.mono HB17.out.size))
          have HB19 := Lib.hid hb19
          clear hb19
          go_wp2_with fail
          refine (K17.out.2.2.2.2.1 _ HB19.out).mono ?_
          rintro e w20 ⟨rfl, hb20⟩
          have HB20 := Lib.hid hb20
          clear c0 c1 hb20
          go_wp2_with fail
          go_meet
          case rel => exact ⟨congrArg Value.bool (by rw [HSX.out]; simp), HB20.out⟩
      case rest =>
        obtain ⟨rfl, hb21⟩ := hcut
        rename World => w21
        clear e1 e2 e3 e4 c0 c1
        have HB21 := Lib.hid hb21
        clear hb21
        go_upto_region 16 with fail
        have hB21 := HB21.out
        have d21 : Below w17.heap.size w17 w21.drew := hB21.drew
        have hall : ∀ V, Below w17.heap.size w17 V → (V.cell? ⟨g1, 0, none⟩ = some (.slice pa np pc) ∧ V.cell? ⟨g3, 0, none⟩ = some (.slice ra nr rc) ∧ V.cell? ⟨g4, 0, none⟩ = some (.slice sa nt sc) ∧ V.cell? ⟨w.heap.size + 3, 0, none⟩ = some (.int .i64 k1) ∧ V.cell? ⟨w.heap.size + 3, 1, none⟩ = some (.int .i64 n1) ∧ V.cell? ⟨w.heap.size + 3, 2, none⟩ = some (.int .u64 b1) ∧ V.cell? ⟨w.heap.size + 3, 3, none⟩ = some (.string t1) ∧ V.cell? ⟨w.heap.size + 3, 4, none⟩ = some (.int .i64 d1)) := fun V hV => by
          obtain ⟨e1, e2, e3, e4⟩ := K17.out.1 V hV
          obtain ⟨-, -, -, c3, c4, c5, c6, c7⟩ := HS.out V (HB17.out.trans (hV.mono HB17.out.size))
          exact ⟨e1, e3, e4, c3, c4, c5, c6, c7⟩
        have kjn : ∀ V, Below w17.heap.size w17 V → Calls Try.prog 18 #[.agg #[.int .i64 k1, .int .i64 n1, .int .u64 b1, .string t1, .int .i64 d1], .slice none 0 0] V fun e w' => ∃ za zc, e = .returned (.agg #[.slice za Zz.length zc]) ∧ TAt w' za Zz ∧ Below w17.heap.size w17 w' := fun V hV => by
          have := join_any V ⟨k1, n1, b1, t1, d1⟩ none 0 [] ⟨fun h => by simp at h, fun t ht => by simp at ht⟩ (by simp only; omega) (by simp) (by simp)
          refine this.mono fun e w' ⟨v, h1, h2, h3⟩ => ?_
          obtain ⟨za, zc, rfl, hz⟩ := own_term (h2.mono (Nat.zero_le _)) (by simp) (by simp) (fun l hl => by simp at hl)
          rw [HG.out.2.2.2.2.2.2.2.2.2.1]
          exact ⟨za, zc, h1, hz, hV.trans (h3.mono hV.size)⟩
        obtain ⟨nz, hnz⟩ : ∃ k, k = Zz.length := ⟨_, rfl⟩
        rw [← hnz] at kjn
        have kzs := K17.out.2.2.2.2.2
        rw [← hnz] at kzs
        have KL := Lib.hid (And.intro hall (And.intro kjn kzs))
        obtain ⟨e1, e3, e4, c3, c4, c5, c6, c7⟩ := hall w21 hB21
        have nm := neg1
        clear hall kjn kzs hnz
        go_region_held3 (fun V => V.cell? ⟨g1, 0, none⟩ = some (.slice pa np pc) ∧ V.cell? ⟨g3, 0, none⟩ = some (.slice ra nr rc) ∧ V.cell? ⟨g4, 0, none⟩ = some (.slice sa nt sc) ∧ V.cell? ⟨w.heap.size + 3, 0, none⟩ = some (.int .i64 k1) ∧ V.cell? ⟨w.heap.size + 3, 1, none⟩ = some (.int .i64 n1) ∧ V.cell? ⟨w.heap.size + 3, 2, none⟩ = some (.int .u64 b1) ∧ V.cell? ⟨w.heap.size + 3, 3, none⟩ = some (.string t1) ∧ V.cell? ⟨w.heap.size + 3, 4, none⟩ = some (.int .i64 d1)) (first | go_keep | exact KL.out.1 _ (by assumption))
          (first | (with_reducible refine (K17.out.2.2.2.1 _ (by assumption)).mono ?_; rintro e w22 ⟨rfl, hb22⟩) | (with_reducible refine (KL.out.2.1 _ (by assumption)).mono ?_; rintro e w23 ⟨za, zc, rfl, hz23, hb23⟩) | (with_reducible refine (KL.out.2.2 _ _ _ (by assumption) (by assumption)).mono ?_; rintro e w24 ⟨rfl, hb24⟩))
        go_wp2_with fail
        go_ret
        exact ⟨rfl, HB0.out.trans ((HB17.out.trans (hb24.mono HB17.out.size)).mono HB0.out.size)⟩
end Go.Proofs.Ytieoiklgoeclaaa
