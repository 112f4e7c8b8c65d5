/-
  The document's own: order (65).
  The document's own: Order (34), Same (35).
-/
import Derived.Test.YtieoiklgoeclaaaGreatRd
import Derived.Test.YtieoiklgoeclaaaGreatTkd
import Derived.Test.YtieoiklgoeclaaaGreatTom
import Derived.Test.YtieoiklgoeclaaaGreatTkg
namespace Go.Proofs.YtieoiklgoeclaaaGreat
open Go.RowKit

/-- Two terms with where their parts end, as the document's order is handed them. -/
structure OrdIn (w : World) (a : Option Addr) (c : Nat) (xs : List Nd) (gE : Nat) (E : Nat → Nat) : Prop where
  tat : TAt w a xs
  row : Lies w gE (iv xs.length E) 3
  good : ∃ D, GoodL xs E D 0
  words : Words xs
  txt : ∀ x ∈ xs, x.txt.size ≤ 1000000000000000
theorem OrdIn.below {w w' : World} {a : Option Addr} {c : Nat} {xs : List Nd} {gE : Nat} {E : Nat → Nat} (h : OrdIn w a c xs gE E) (hb : Below w.heap.size w w') : OrdIn w' a c xs gE E :=
  ⟨h.tat.below hb (Nat.le_refl _), h.row.below hb h.row.lt, h.good, h.words, h.txt⟩
def prt (a b c d : Int) : Nat → Int
  | 0 => a
  | 1 => b
  | 2 => c
  | _ => d
theorem cmp_step (m m' : Nd) (g g' r r' : Fo) : (Fo.cons m g r).cmp (.cons m' g' r') = if (Fo.cons m g .nil).cmp (.cons m' g' .nil) ≠ 0 then (Fo.cons m g .nil).cmp (.cons m' g' .nil) else r.cmp r' := by
  have := cmp_app (f := .cons m g .nil) (f' := .cons m' g' .nil) r r' rfl rfl
  exact this
theorem cmp_one {m m' : Nd} {g g' : Fo} (h : partB m m' = 0) : (Fo.cons m g .nil).cmp (.cons m' g' .nil) = g.cmp g' := by
  simp only [Fo.cmp, h, ne_eq, not_true_eq_false, if_false]
  by_cases z : g.cmp g' = 0
  · rw [if_neg (by simpa using z), z]
  · rw [if_pos (by simpa using z)]
theorem cmp_part {m m' : Nd} {g g' : Fo} (h : partB m m' ≠ 0) : (Fo.cons m g .nil).cmp (.cons m' g' .nil) = partB m m' := by
  simp only [Fo.cmp]
  rw [if_pos h]
theorem at_next {xs : List Nd} {p : Nat} {m : Nd} {g : Fo} {rest : List Nd} (h : AtFo xs p m g rest) : xs.drop (p + 1 + g.len) = rest := by
  unfold AtFo at h
  rw [show p + 1 + g.len = p + (g.len + 1) by omega, ← List.drop_drop, h]
  simp only [List.drop_succ_cons]
  exact List.drop_left' (Fo.flat_len g)
set_option maxRecDepth 100000 in
set_option maxHeartbeats 4000000 in
theorem rord_at : ∀ (N : Nat) (w : World) (a b : Option Addr) (c1 c2 : Nat) (xs ys : List Nd) (gE gF : Nat) (E F : Nat → Nat) (i j : Nat) (n n' : Nd) (k k' : Fo) (rest rest' : List Nd), k.len < N → OrdIn w a c1 xs gE E → OrdIn w b c2 ys gF F → AtFo xs i n k rest → AtFo ys j n' k' rest' →
    Calls Tryz.prog 44 #[.agg #[.slice a xs.length c1], .int .i64 i, .agg #[.slice b ys.length c2], .int .i64 j, .slice (some ⟨gE, 0, none⟩) xs.length xs.length, .slice (some ⟨gF, 0, none⟩) ys.length ys.length] w fun e w' =>
      e = .returned (.int .i64 ((Fo.cons n k .nil).cmp (.cons n' k' .nil))) ∧ Below w.heap.size w w' := by
  intro N
  induction N with
  | zero => intro w a b c1 c2 xs ys gE gF E F i j n n' k k' rest rest' h; omega
  | succ N ih =>
    intro w a b c1 c2 xs ys gE gF E F i j n n' k k' rest rest' hN hx hy hi hj
    obtain ⟨nx, hnx⟩ : ∃ m, m = xs.length := ⟨_, rfl⟩
    obtain ⟨ny, hny⟩ : ∃ m, m = ys.length := ⟨_, rfl⟩
    have hil : i < xs.length := by
      rcases Nat.lt_or_ge i xs.length with h | h
      · exact h
      · unfold AtFo at hi; rw [List.drop_eq_nil_of_le h] at hi; cases hi
    have hjl : j < ys.length := by
      rcases Nat.lt_or_ge j ys.length with h | h
      · exact h
      · unfold AtFo at hj; rw [List.drop_eq_nil_of_le h] at hj; cases hj
    have hxi : xs[i] = { n with kids := (k.cnt : Int) } := by
      have h1 := List.drop_eq_getElem_cons hil
      unfold AtFo at hi; rw [h1] at hi; exact (List.cons.inj hi).1
    have hyj : ys[j] = { n' with kids := (k'.cnt : Int) } := by
      have h1 := List.drop_eq_getElem_cons hjl
      unfold AtFo at hj; rw [h1] at hj; exact (List.cons.inj hj).1
    obtain ⟨g, og, ea, hgx⟩ := hx.tat.1 (by omega)
    obtain ⟨h, oh, eb, hhy⟩ := hy.tat.1 (by omega)
    subst ea eb
    have hcx := fun (q : Nat) (v : Value) (hv : ({ n with kids := (k.cnt : Int) } : Nd).cells[q]? = some v) => hgx.2 i hil q v (by rw [hxi]; exact hv)
    have hcy := fun (q : Nat) (v : Value) (hv : ({ n' with kids := (k'.cnt : Int) } : Nd).cells[q]? = some v) => hhy.2 j hjl q v (by rw [hyj]; exact hv)
    have hbits : n.bits < 2 ^ 64 := by have := hx.words _ (List.getElem_mem hil); rw [hxi] at this; exact this
    have hbits' : n'.bits < 2 ^ 64 := by have := hy.words _ (List.getElem_mem hjl); rw [hyj] at this; exact this
    have htx : n.txt.size ≤ 1000000000000000 := by have := hx.txt _ (List.getElem_mem hil); rw [hxi] at this; exact this
    have hty : n'.txt.size ≤ 1000000000000000 := by have := hy.txt _ (List.getElem_mem hjl); rw [hyj] at this; exact this
    obtain ⟨k1, n1, b1, t1, d1⟩ := n
    obtain ⟨k2, n2, b2, t2, d2⟩ := n'
    simp only at hcx hcy hbits hbits' htx hty
    obtain ⟨R, hR⟩ : ∃ R, R = (Fo.cons ⟨k1, n1, b1, t1, d1⟩ k .nil).cmp (.cons ⟨k2, n2, b2, t2, d2⟩ k' .nil) := ⟨_, rfl⟩
    rw [← hR, ← hnx, ← hny]
    have hA : Lies ((w.alloc (.cells #[.slice (some ⟨g, og, none⟩) nx c1] 27)).alloc (.cells #[.slice (some ⟨h, oh, none⟩) ny c2] 27)) w.heap.size #[.slice (some ⟨g, og, none⟩) nx c1] 27 := (Lies.new _ _ _).alloc _
    have hB : Lies ((w.alloc (.cells #[.slice (some ⟨g, og, none⟩) nx c1] 27)).alloc (.cells #[.slice (some ⟨h, oh, none⟩) ny c2] 27)) (w.heap.size + 1) #[.slice (some ⟨h, oh, none⟩) ny c2] 27 := by
      have := Lies.new (w.alloc (.cells #[.slice (some ⟨g, og, none⟩) nx c1] 27)) #[.slice (some ⟨h, oh, none⟩) ny c2] 27
      simpa using this
    have hb0 : Below w.heap.size w ((w.alloc (.cells #[.slice (some ⟨g, og, none⟩) nx c1] 27)).alloc (.cells #[.slice (some ⟨h, oh, none⟩) ny c2] 27)) := ((Below.refl _ _).alloc (Nat.le_refl _) _).alloc (by simp) _
    have q0 : (0 : Int) ≤ (i : Int) := by omega
    have q1 : (i : Int) < (nx : Int) := by omega
    have q2 : (0 : Int) ≤ (j : Int) := by omega
    have q3 : (j : Int) < (ny : Int) := by omega
    have q8 : (nx : Int) ≤ 1000000 := by have := hx.tat.2.1; omega
    have q9 : (ny : Int) ≤ 1000000 := by have := hy.tat.2.1; omega
    have H := Lib.hid (And.intro hx (And.intro hy (And.intro hi (And.intro hj (And.intro hR (And.intro hnx (And.intro hny (And.intro hgx.1 hhy.1))))))))
    have HC := Lib.hid (And.intro hcx hcy)
    have HIH := Lib.hid ih
    clear hx hy hi hj hR hnx hny hgx hhy hcx hcy ih hxi hyj hil hjl
    go_enter Tryz.func44, Tryz.ntmps44
    go_upto_region 1 with fail
    generalize (w.alloc (.cells #[.slice (some ⟨g, og, none⟩) nx c1] 27)).alloc (.cells #[.slice (some ⟨h, oh, none⟩) ny c2] 27) = W0 at hA hB hb0 ⊢
    have hS : ∀ V, Below W0.heap.size W0 V → V.cell? ⟨w.heap.size, 0, none⟩ = some (.slice (some ⟨g, og, none⟩) nx c1) ∧ V.cell? ⟨w.heap.size + 1, 0, none⟩ = some (.slice (some ⟨h, oh, none⟩) ny c2) ∧
        V.cell? ⟨g, og + i * 5, none⟩ = some (.int .i64 k1) ∧ V.cell? ⟨g, og + i * 5 + 1, none⟩ = some (.int .i64 n1) ∧ V.cell? ⟨g, og + i * 5 + 2, none⟩ = some (.int .u64 b1) ∧ V.cell? ⟨g, og + i * 5 + 3, none⟩ = some (.string t1) ∧ V.cell? ⟨g, og + i * 5 + 4, none⟩ = some (.int .i64 (k.cnt : Int)) ∧
        V.cell? ⟨h, oh + j * 5, none⟩ = some (.int .i64 k2) ∧ V.cell? ⟨h, oh + j * 5 + 1, none⟩ = some (.int .i64 n2) ∧ V.cell? ⟨h, oh + j * 5 + 2, none⟩ = some (.int .u64 b2) ∧ V.cell? ⟨h, oh + j * 5 + 3, none⟩ = some (.string t2) ∧ V.cell? ⟨h, oh + j * 5 + 4, none⟩ = some (.int .i64 (k'.cnt : Int)) := fun V hV => by
      have hbw := hb0.trans (hV.mono hb0.size)
      have gx := H.out.2.2.2.2.2.2.2.1
      have hy := H.out.2.2.2.2.2.2.2.2
      exact ⟨(hA.below hV hA.lt).cell 0 rfl, (hB.below hV hB.lt).cell 0 rfl,
        (hbw.cell (p := ⟨g, og + i * 5, none⟩) gx).trans (HC.out.1 0 _ rfl), (hbw.cell (p := ⟨g, og + i * 5 + 1, none⟩) gx).trans (HC.out.1 1 _ rfl), (hbw.cell (p := ⟨g, og + i * 5 + 2, none⟩) gx).trans (HC.out.1 2 _ rfl), (hbw.cell (p := ⟨g, og + i * 5 + 3, none⟩) gx).trans (HC.out.1 3 _ rfl), (hbw.cell (p := ⟨g, og + i * 5 + 4, none⟩) gx).trans (HC.out.1 4 _ rfl),
        (hbw.cell (p := ⟨h, oh + j * 5, none⟩) hy).trans (HC.out.2 0 _ rfl), (hbw.cell (p := ⟨h, oh + j * 5 + 1, none⟩) hy).trans (HC.out.2 1 _ rfl), (hbw.cell (p := ⟨h, oh + j * 5 + 2, none⟩) hy).trans (HC.out.2 2 _ rfl), (hbw.cell (p := ⟨h, oh + j * 5 + 3, none⟩) hy).trans (HC.out.2 3 _ rfl), (hbw.cell (p := ⟨h, oh + j * 5 + 4, none⟩) hy).trans (HC.out.2 4 _ rfl)⟩
    obtain ⟨s0, s1, s2, s3, s4, s5, s6, s7, s8, s9, s10, s11⟩ := hS W0 (Below.refl _ _)
    have HS := Lib.hid (And.intro hS hb0)
    clear hA hB hb0 hS
    have hP : ∀ c d : Array Value, Lies ((W0.alloc (.cells c 36)).alloc (.cells d 36)).drew W0.heap.size c 36 ∧ Lies ((W0.alloc (.cells c 36)).alloc (.cells d 36)).drew (W0.heap.size + 1) d 36 ∧ Below W0.heap.size W0 ((W0.alloc (.cells c 36)).alloc (.cells d 36)).drew := fun c d => by
      refine ⟨(Lies.new W0 c 36).alloc _, ?_, (((Below.refl _ _).alloc (Nat.le_refl _) _).alloc (by simp) _).drew⟩
      have h1 := Lies.new (W0.alloc (.cells c 36)) d 36
      have h2 : Lies ((W0.alloc (.cells c 36)).alloc (.cells d 36)) (W0.heap.size + 1) d 36 := by simpa using h1
      exact h2
    have HP := Lib.hid hP
    clear hP
    go_cut [13, 14] from 106 (fun v u W => ∃ p q, v = .pointer (some ⟨p, 0, none⟩) ∧ u = .pointer (some ⟨q, 0, none⟩) ∧ Lies W p #[.int .i64 k1, .int .i64 n1, .int .u64 b1, .string t1, .int .i64 (k.cnt : Int)] 36 ∧ Lies W q #[.int .i64 k2, .int .i64 n2, .int .u64 b2, .string t2, .int .i64 (k'.cnt : Int)] 36 ∧ Below W0.heap.size W0 W)
    case first =>
      go_region_held3 (fun V => V.cell? ⟨w.heap.size, 0, none⟩ = some (.slice (some ⟨g, og, none⟩) nx c1) ∧ V.cell? ⟨w.heap.size + 1, 0, none⟩ = some (.slice (some ⟨h, oh, none⟩) ny c2) ∧
        V.cell? ⟨g, og + i * 5, none⟩ = some (.int .i64 k1) ∧ V.cell? ⟨g, og + i * 5 + 1, none⟩ = some (.int .i64 n1) ∧ V.cell? ⟨g, og + i * 5 + 2, none⟩ = some (.int .u64 b1) ∧ V.cell? ⟨g, og + i * 5 + 3, none⟩ = some (.string t1) ∧ V.cell? ⟨g, og + i * 5 + 4, none⟩ = some (.int .i64 (k.cnt : Int)) ∧
        V.cell? ⟨h, oh + j * 5, none⟩ = some (.int .i64 k2) ∧ V.cell? ⟨h, oh + j * 5 + 1, none⟩ = some (.int .i64 n2) ∧ V.cell? ⟨h, oh + j * 5 + 2, none⟩ = some (.int .u64 b2) ∧ V.cell? ⟨h, oh + j * 5 + 3, none⟩ = some (.string t2) ∧ V.cell? ⟨h, oh + j * 5 + 4, none⟩ = some (.int .i64 (k'.cnt : Int))) (go_keep) (fail)
      all_goals
        clear s0 s1 s2 s3 s4 s5 s6 s7 s8 s9 s10 s11
        go_wp2_with fail
        go_meet
        case rel => first | exact ⟨_, _, rfl, rfl, (HP.out _ _).1, (HP.out _ _).2.1, (HP.out _ _).2.2⟩ | exact ⟨_, _, rfl, rfl, (HP.out _ _).2.1, (HP.out _ _).1, (HP.out _ _).2.2⟩
    case rest =>
      obtain ⟨p, q, rfl, rfl, hp, hq, hb2⟩ := hcut
      rename World => W1
      clear s0 s1 s2 s3 s4 s5 s6 s7 s8 s9 s10 s11
      obtain ⟨X1, hX1⟩ : ∃ x, x = cmpI k1 k2 := ⟨_, rfl⟩
      obtain ⟨X2, hX2⟩ : ∃ x, x = cmpI n1 n2 := ⟨_, rfl⟩
      obtain ⟨X3, hX3⟩ : ∃ x, x = orderB b1 b2 := ⟨_, rfl⟩
      obtain ⟨X4, hX4⟩ : ∃ x, x = cmpL t1.toList t2.toList := ⟨_, rfl⟩
      have up : ∀ (V : World) (v : Value), Below W1.heap.size W1 V → ∀ e w', (e = Ending.returned v ∧ V = w') → (e = Ending.returned v ∧ Below W1.heap.size W1 w') := fun V v hV e w' k => ⟨k.1, by rw [← k.2]; exact hV⟩
      have c1 : ∀ V, Below W1.heap.size W1 V → Calls Tryz.prog 65 #[.int .i64 k1, .int .i64 k2] V fun e w' => e = .returned (.int .i64 X1) ∧ Below W1.heap.size W1 w' := fun V hV => by rw [hX1]; exact (rcompare_any V k1 k2).mono (up V _ hV)
      have c2 : ∀ V, Below W1.heap.size W1 V → Calls Tryz.prog 65 #[.int .i64 n1, .int .i64 n2] V fun e w' => e = .returned (.int .i64 X2) ∧ Below W1.heap.size W1 w' := fun V hV => by rw [hX2]; exact (rcompare_any V n1 n2).mono (up V _ hV)
      have c3 : ∀ V, Below W1.heap.size W1 V → Calls Tryz.prog 66 #[.int .u64 b1, .int .u64 b2] V fun e w' => e = .returned (.int .i64 X3) ∧ Below W1.heap.size W1 w' := fun V hV => by rw [hX3]; exact (rorder_any V b1 b2 hbits hbits').mono (up V _ hV)
      have c4 : ∀ V, Below W1.heap.size W1 V → Calls Tryz.prog 67 #[.string t1, .string t2] V fun e w' => e = .returned (.int .i64 X4) ∧ Below W1.heap.size W1 w' := fun V hV => by rw [hX4]; exact (texts_any V t1 t2 htx hty).mono fun e w' k => ⟨k.1, hV.trans (k.2.mono hV.size)⟩
      have hcs : ∀ V, Below W1.heap.size W1 V → V.cell? ⟨p, 0, none⟩ = some (.int .i64 k1) ∧ V.cell? ⟨p, 1, none⟩ = some (.int .i64 n1) ∧ V.cell? ⟨p, 2, none⟩ = some (.int .u64 b1) ∧ V.cell? ⟨p, 3, none⟩ = some (.string t1) ∧ V.cell? ⟨p, 4, none⟩ = some (.int .i64 (k.cnt : Int)) ∧
          V.cell? ⟨q, 0, none⟩ = some (.int .i64 k2) ∧ V.cell? ⟨q, 1, none⟩ = some (.int .i64 n2) ∧ V.cell? ⟨q, 2, none⟩ = some (.int .u64 b2) ∧ V.cell? ⟨q, 3, none⟩ = some (.string t2) ∧ V.cell? ⟨q, 4, none⟩ = some (.int .i64 (k'.cnt : Int)) := fun V hV => by
        have y1 := hp.below hV hp.lt
        have y2 := hq.below hV hq.lt
        exact ⟨y1.cell 0 rfl, y1.cell 1 rfl, y1.cell 2 rfl, y1.cell 3 rfl, y1.cell 4 rfl, y2.cell 0 rfl, y2.cell 1 rfl, y2.cell 2 rfl, y2.cell 3 rfl, y2.cell 4 rfl⟩
      have hpart : partB ⟨k1, n1, b1, t1, d1⟩ ⟨k2, n2, b2, t2, d2⟩ = if X1 ≠ 0 then X1 else if X2 ≠ 0 then X2 else if X3 ≠ 0 then X3 else X4 := by rw [hX1, hX2, hX3, hX4]; rfl
      have K := Lib.hid (And.intro c1 (And.intro c2 (And.intro c3 (And.intro c4 (And.intro hcs (And.intro hb2 hpart))))))
      have hB1 : Below W1.heap.size W1 W1 := Below.refl _ _
      have d1 : Below W1.heap.size W1 W1.drew := hB1.drew
      obtain ⟨s0, s1, s2, s3, s4, s5, s6, s7, s8, s9⟩ := hcs W1 hB1
      clear c1 c2 c3 c4 hcs hb2 hpart up hX1 hX2 hX3 hX4 hp hq hbits hbits' htx hty
      go_upto_region 2 with fail
      go_region_held3 (fun V => V.cell? ⟨p, 0, none⟩ = some (.int .i64 k1) ∧ V.cell? ⟨p, 1, none⟩ = some (.int .i64 n1) ∧ V.cell? ⟨p, 2, none⟩ = some (.int .u64 b1) ∧ V.cell? ⟨p, 3, none⟩ = some (.string t1) ∧
          V.cell? ⟨q, 0, none⟩ = some (.int .i64 k2) ∧ V.cell? ⟨q, 1, none⟩ = some (.int .i64 n2) ∧ V.cell? ⟨q, 2, none⟩ = some (.int .u64 b2) ∧ V.cell? ⟨q, 3, none⟩ = some (.string t2)) (first | go_keep | exact ⟨(K.out.2.2.2.2.1 _ (by assumption)).1, (K.out.2.2.2.2.1 _ (by assumption)).2.1, (K.out.2.2.2.2.1 _ (by assumption)).2.2.1, (K.out.2.2.2.2.1 _ (by assumption)).2.2.2.1, (K.out.2.2.2.2.1 _ (by assumption)).2.2.2.2.2.1, (K.out.2.2.2.2.1 _ (by assumption)).2.2.2.2.2.2.1, (K.out.2.2.2.2.1 _ (by assumption)).2.2.2.2.2.2.2.1, (K.out.2.2.2.2.1 _ (by assumption)).2.2.2.2.2.2.2.2.1⟩)
        (first | (with_reducible refine (K.out.1 _ (by assumption)).mono ?_; rintro e u1 ⟨rfl, hu1⟩) | (with_reducible refine (K.out.2.1 _ (by assumption)).mono ?_; rintro e u2 ⟨rfl, hu2⟩) | (with_reducible refine (K.out.2.2.1 _ (by assumption)).mono ?_; rintro e u3 ⟨rfl, hu3⟩) | (with_reducible refine (K.out.2.2.2.1 _ (by assumption)).mono ?_; rintro e u4 ⟨rfl, hu4⟩))
      have hr5 := Lies.new u4 #[.int .i64 X1, .int .i64 X2, .int .i64 X3, .int .i64 X4] 3
      have hb5 : Below W1.heap.size W1 (u4.alloc (.cells #[.int .i64 X1, .int .i64 X2, .int .i64 X3, .int .i64 X4] 3)) := hu4.alloc hu4.size _
      rename_i hHeld
      clear hHeld
      generalize u4.alloc (.cells #[.int .i64 X1, .int .i64 X2, .int .i64 X3, .int .i64 X4] 3) = W5 at hr5 hb5 ⊢
      have hpr : ∀ m : Nat, m < 4 → W5.cell? ⟨u4.heap.size, m, none⟩ = some (.int .i64 (prt X1 X2 X3 X4 m)) := fun m hm => by
        rcases (by omega : m = 0 ∨ m = 1 ∨ m = 2 ∨ m = 3) with rfl | rfl | rfl | rfl
        · exact hr5.cell 0 rfl
        · exact hr5.cell 1 rfl
        · exact hr5.cell 2 rfl
        · exact hr5.cell 3 rfl
      have K5 := Lib.hid (And.intro hpr hb5)
      clear hpr hr5 hb5 hu1 hu2 hu3 hu4 s0 s1 s2 s3 s4 s5 s6 s7 s8 s9 hB1 d1
      go_upto_region 4 with fail
      go_loop [16] (fun c => ∃ z : Nat, z ≤ 4 ∧ c = .int .i64 z ∧ ∀ m, m < z → prt X1 X2 X3 X4 m = 0) (fun c => (4 - intOf c).toNat)
      case atStart => exact ⟨0, by omega, by go_num, fun m h => by omega⟩
      case round =>
        obtain ⟨z, hz, rfl, hall⟩ := hrel
        have HZ := Lib.hid hall
        clear hall
        by_cases hz4 : z < 4
        · have q5 : (z : Int) < 4 := by omega
          have q6 : (0 : Int) ≤ (z : Int) := by omega
          have hce := K5.out.1 z hz4
          obtain ⟨Y, hY⟩ : ∃ y, y = prt X1 X2 X3 X4 z := ⟨_, rfl⟩
          rw [← hY] at hce
          by_cases hY0 : Y = 0
          · have hbn : ((Y != 0) : Bool) = false := by simp [hY0]
            have hnext : ∀ m, m < z + 1 → prt X1 X2 X3 X4 m = 0 := fun m hm => by
              by_cases e : m = z
              · rw [e, ← hY, hY0]
              · exact HZ.out m (by omega)
            have HN := Lib.hid hnext
            clear hnext hY hY0
            go_wp2_with fail
            exact ⟨⟨z + 1, by omega, by go_num, HN.out⟩, by simp [intOf]; omega⟩
          · have hbn : ((Y != 0) : Bool) = true := by simp [hY0]
            have hRY : Y = R := by
              have hp := K.out.2.2.2.2.2.2
              have h0 := fun m => HZ.out m
              have hpe : (if X1 ≠ 0 then X1 else if X2 ≠ 0 then X2 else if X3 ≠ 0 then X3 else X4) = Y := by
                rcases (by omega : z = 0 ∨ z = 1 ∨ z = 2 ∨ z = 3) with rfl | rfl | rfl | rfl
                · have : Y = X1 := hY
                  rw [if_pos (by rw [← this]; exact hY0), this]
                · have : Y = X2 := hY
                  have a0 : X1 = 0 := h0 0 (by omega)
                  rw [if_neg (by simpa using a0), if_pos (by rw [← this]; exact hY0), this]
                · have : Y = X3 := hY
                  have a0 : X1 = 0 := h0 0 (by omega)
                  have a1 : X2 = 0 := h0 1 (by omega)
                  rw [if_neg (by simpa using a0), if_neg (by simpa using a1), if_pos (by rw [← this]; exact hY0), this]
                · have : Y = X4 := hY
                  have a0 : X1 = 0 := h0 0 (by omega)
                  have a1 : X2 = 0 := h0 1 (by omega)
                  have a2 : X3 = 0 := h0 2 (by omega)
                  rw [if_neg (by simpa using a0), if_neg (by simpa using a1), if_neg (by simpa using a2), this]
              rw [H.out.2.2.2.2.1, cmp_part (by rw [hp, hpe]; exact hY0), hp, hpe]
            have HY := Lib.hid hRY
            have hbf := HS.out.2.trans ((K.out.2.2.2.2.2.1.trans (K5.out.2.mono K.out.2.2.2.2.2.1.size)).mono HS.out.2.size)
            have HF := Lib.hid hbf
            clear hY hY0 hRY hbf
            go_wp2_with fail
            go_ret
            exact ⟨by rw [← HY.out]; rfl, HF.out⟩
        · have q5 : ¬ (z : Int) < 4 := by omega
          have hcmp : R = k.cmp k' := by
            have hp := K.out.2.2.2.2.2.2
            have a0 : X1 = 0 := HZ.out 0 (by omega)
            have a1 : X2 = 0 := HZ.out 1 (by omega)
            have a2 : X3 = 0 := HZ.out 2 (by omega)
            have a3 : X4 = 0 := HZ.out 3 (by omega)
            rw [H.out.2.2.2.2.1]
            exact cmp_one (by rw [hp]; simp [a0, a1, a2, a3])
          have HCM := Lib.hid hcmp
          clear hcmp hz4
          go_upto_region 10 with fail
          have hkl : k.cnt + i < nx ∧ k'.cnt + j < ny := by
            have h1 := congrArg List.length H.out.2.2.1
            have h2 := congrArg List.length H.out.2.2.2.1
            rw [List.length_drop] at h1 h2
            simp only [List.length_cons, List.length_append, Fo.flat_len] at h1 h2
            have := k.cnt_le
            have := k'.cnt_le
            have := H.out.2.2.2.2.2.1
            have := H.out.2.2.2.2.2.2.1
            omega
          have q10 : (k.cnt : Int) ≤ 1000000 := by omega
          have q11 : (k'.cnt : Int) ≤ 1000000 := by omega
          clear q5
          have HD : Hid (xs.drop (i + 1) = k.flat ++ rest ∧ ys.drop (j + 1) = k'.flat ++ rest') := Lib.hid (by
            have h1 := H.out.2.2.1
            have h2 := H.out.2.2.2.1
            unfold AtFo at h1 h2
            refine ⟨?_, ?_⟩
            · rw [← List.drop_drop, h1]; rfl
            · rw [← List.drop_drop, h2]; rfl)
          have hcell0 : ∀ V, Below W5.heap.size W5 V → V.cell? ⟨p, 4, none⟩ = some (.int .i64 (k.cnt : Int)) ∧ V.cell? ⟨q, 4, none⟩ = some (.int .i64 (k'.cnt : Int)) ∧ V.cell? ⟨w.heap.size, 0, none⟩ = some (.slice (some ⟨g, og, none⟩) nx c1) ∧ V.cell? ⟨w.heap.size + 1, 0, none⟩ = some (.slice (some ⟨h, oh, none⟩) ny c2) ∧ Below w.heap.size w V := fun V hV => by
            have h1 := K5.out.2.trans (hV.mono K5.out.2.size)
            have h0 := K.out.2.2.2.2.2.1.trans (h1.mono K.out.2.2.2.2.2.1.size)
            have hs := HS.out.1 V h0
            have hc := K.out.2.2.2.2.1 V h1
            exact ⟨hc.2.2.2.2.1, hc.2.2.2.2.2.2.2.2.2, hs.1, hs.2.1, HS.out.2.trans (h0.mono HS.out.2.size)⟩
          have HC0 := Lib.hid hcell0
          clear hcell0 hkl
          go_upto_region 10 with fail
          go_loopw [17, 18, 19] (fun a b c W => ∃ (z pp qq : Nat) (f f' : Fo), a = .int .i64 pp ∧ b = .int .i64 qq ∧ c = .int .i64 z ∧ xs.drop pp = f.flat ++ rest ∧ ys.drop qq = f'.flat ++ rest' ∧ f.cnt + z = k.cnt ∧ f'.cnt + z = k'.cnt ∧ f.len ≤ k.len ∧ f.cmp f' = k.cmp k' ∧ Below W5.heap.size W5 W) (fun _ _ c _ => (k.cnt - intOf c).toNat)
          case atStart => exact ⟨0, i + 1, j + 1, k, k', by go_num, by go_num, by go_num, HD.out.1, HD.out.2, by omega, by omega, Nat.le_refl _, rfl, Below.refl _ _⟩
          case round =>
            obtain ⟨z, pp, qq, f, f', rfl, rfl, rfl, hd1, hd2, hf1, hf2, hfl, hcm, hbr⟩ := hrel
            obtain ⟨s0, s1, s2, s3, hbw⟩ := HC0.out _ hbr
            have hend : cmpI (k.cnt : Int) (k'.cnt : Int) = R → ∀ V : World, Calls Tryz.prog 65 #[.int .i64 (k.cnt : Int), .int .i64 (k'.cnt : Int)] V fun e w' => e = .returned (.int .i64 R) ∧ V = w' := fun e V => by
              rw [← e]; exact rcompare_any V _ _
            have HE := Lib.hid hend
            have HB := Lib.hid (And.intro hbr hbw)
            clear hend hbr hbw
            cases f with
            | nil =>
              have hzk : k.cnt = z := by simp only [Fo.cnt] at hf1; omega
              have hRe : cmpI (k.cnt : Int) (k'.cnt : Int) = R := by
                rw [HCM.out, ← hcm]
                cases f' with
                | nil =>
                  simp only [Fo.cnt] at hf2
                  rw [show (k'.cnt : Int) = (k.cnt : Int) by omega, cmpI_self]; rfl
                | cons _ _ r =>
                  simp only [Fo.cnt] at hf2
                  unfold cmpI
                  rw [if_pos (by omega)]; rfl
              have HC89 := Lib.hid (HE.out hRe)
              have q12 : ¬ (z : Int) < (k.cnt : Int) := by omega
              clear hzk hRe hcm hd1 hd2 hf1 hf2 hfl
              go_wp2_with fail
              refine (HC89.out _).mono ?_
              rintro e w' ⟨rfl, rfl⟩
              go_wp2_with fail
              go_ret
              exact ⟨rfl, HB.out.2⟩
            | cons m u r =>
              have hzk : z < k.cnt := by simp only [Fo.cnt] at hf1; omega
              have q12 : (z : Int) < (k.cnt : Int) := by omega
              cases f' with
              | nil =>
                have hzk2 : k'.cnt = z := by simp only [Fo.cnt] at hf2; omega
                have hRe : cmpI (k.cnt : Int) (k'.cnt : Int) = R := by
                  rw [HCM.out, ← hcm]
                  unfold cmpI
                  rw [if_neg (by omega), if_pos (by omega)]; rfl
                have HC89 := Lib.hid (HE.out hRe)
                have q13 : ¬ (z : Int) < (k'.cnt : Int) := by omega
                clear hzk hzk2 hRe hcm hd1 hd2 hf1 hf2 hfl
                go_wp2_with fail
                refine (HC89.out _).mono ?_
                rintro e w' ⟨rfl, rfl⟩
                go_wp2_with fail
                go_ret
                exact ⟨rfl, HB.out.2⟩
              | cons m' u' r' =>
                have hzk2 : z < k'.cnt := by simp only [Fo.cnt] at hf2; omega
                have q13 : (z : Int) < (k'.cnt : Int) := by omega
                have hat1 : AtFo xs pp m u (r.flat ++ rest) := by unfold AtFo; rw [hd1]; simp [Fo.flat]
                have hat2 : AtFo ys qq m' u' (r'.flat ++ rest') := by unfold AtFo; rw [hd2]; simp [Fo.flat]
                simp only [Fo.cnt] at hf1 hf2
                simp only [Fo.len] at hfl
                have hx' := H.out.1.below HB.out.2
                have hy' := H.out.2.1.below HB.out.2
                have hrec := HIH.out wr (some ⟨g, og, none⟩) (some ⟨h, oh, none⟩) c1 c2 xs ys gE gF E F pp qq m m' u u' (r.flat ++ rest) (r'.flat ++ rest') (by omega) hx' hy' hat1 hat2
                rw [← H.out.2.2.2.2.2.1, ← H.out.2.2.2.2.2.2.1] at hrec
                obtain ⟨C, hC⟩ : ∃ c, c = (Fo.cons m u .nil).cmp (.cons m' u' .nil) := ⟨_, rfl⟩
                rw [← hC] at hrec
                rw [cmp_step, ← hC] at hcm
                obtain ⟨D, hgx⟩ := H.out.1.good
                obtain ⟨D', hgy⟩ := H.out.2.1.good
                have e1 := (hgx pp (Nat.zero_le _) m u _ hat1).1
                have e2 := (hgy qq (Nat.zero_le _) m' u' _ hat2).1
                have n1' := at_next hat1
                have n2' := at_next hat2
                rw [← e1] at n1'
                rw [← e2] at n2'
                have l1 : pp < nx := by
                  have h1 := congrArg List.length hd1
                  rw [List.length_drop, ← H.out.2.2.2.2.2.1] at h1
                  simp only [Fo.flat, List.length_append, List.length_cons] at h1
                  omega
                have l2 : qq < ny := by
                  have h1 := congrArg List.length hd2
                  rw [List.length_drop, ← H.out.2.2.2.2.2.2.1] at h1
                  simp only [Fo.flat, List.length_append, List.length_cons] at h1
                  omega
                have q14 : (0 : Int) ≤ (pp : Int) := by omega
                have q15 : (pp : Int) < (nx : Int) := by omega
                have q16 : (0 : Int) ≤ (qq : Int) := by omega
                have q17 : (qq : Int) < (ny : Int) := by omega
                obtain ⟨x1, hx1⟩ : ∃ x, x = E pp := ⟨_, rfl⟩
                obtain ⟨x2, hx2⟩ : ∃ x, x = F qq := ⟨_, rfl⟩
                have hce : ∀ V, Below w.heap.size w V → V.cell? ⟨gE, pp, none⟩ = some (.int .i64 x1) ∧ V.cell? ⟨gF, qq, none⟩ = some (.int .i64 x2) := fun V hV => by
                  have a1 := (H.out.1.below hV).row.cell pp (iv_get xs.length E pp (by rw [← H.out.2.2.2.2.2.1]; exact l1))
                  have a2 := (H.out.2.1.below hV).row.cell qq (iv_get ys.length F qq (by rw [← H.out.2.2.2.2.2.2.1]; exact l2))
                  rw [← hx1] at a1
                  rw [← hx2] at a2
                  exact ⟨a1, a2⟩
                rw [← hx1] at n1'
                rw [← hx2] at n2'
                have HR := Lib.hid (And.intro hrec (And.intro hce (And.intro n1' (And.intro n2' hcm))))
                clear hrec hce n1' n2' hcm hx1 hx2 l1 l2 e1 e2 hgx hgy hC hx' hy' hat1 hat2 hd1 hd2 hzk hzk2
                go_wp2_with fail
                refine HR.out.1.mono ?_
                rintro e w6 ⟨rfl, hb6⟩
                have hbr6 := HB.out.1.trans (hb6.mono HB.out.1.size)
                have hbw6 := HB.out.2.trans (hb6.mono HB.out.2.size)
                have B6 := Lib.hid (And.intro hbr6 hbw6)
                obtain ⟨v1, v2⟩ := HR.out.2.1 w6 hbw6
                clear hb6 hbr6 hbw6 s0 s1 s2 s3
                by_cases hC0 : C = 0
                · have hbn : ((C != 0) : Bool) = false := by simp [hC0]
                  have hnx' : r.cmp r' = k.cmp k' := by rw [← HR.out.2.2.2.2, hC0]; simp
                  have HN := Lib.hid hnx'
                  clear hnx' hC0
                  go_wp2_with fail
                  exact ⟨⟨z + 1, x1, x2, r, r', rfl, rfl, by go_num, HR.out.2.2.1, HR.out.2.2.2.1, by omega, by omega, by omega, HN.out, B6.out.1⟩, by simp [intOf]; omega⟩
                · have hbn : ((C != 0) : Bool) = true := by simp [hC0]
                  have hRC : R = C := by
                    rw [HCM.out, ← HR.out.2.2.2.2, if_pos hC0]
                  have HN := Lib.hid hRC
                  clear hRC hC0
                  go_wp2_with fail
                  go_ret
                  exact ⟨by rw [HN.out]; rfl, B6.out.2⟩
end Go.Proofs.YtieoiklgoeclaaaGreat
namespace Go.Proofs.YtieoiklgoeclaaaGreat
open Go.RowKit

/-- A term with words for reals and texts that are not too long. -/
structure TW (w : World) (a : Option Addr) (xs : List Nd) : Prop where
  tat : TAt w a xs
  words : Words xs
  txt : ∀ x ∈ xs, x.txt.size ≤ 1000000000000000
theorem TW.below {w w' : World} {a : Option Addr} {xs : List Nd} (h : TW w a xs) (hb : Below w.heap.size w w') : TW w' a xs := ⟨h.tat.below hb (Nat.le_refl _), h.words, h.txt⟩
theorem ordIn_of {w : World} {a : Option Addr} (c : Nat) {xs : List Nd} {gE : Nat} {E D : Nat → Nat} (h : TW w a xs) (hl : Laid (ksOf xs) xs.length E D) (hr : Lies w gE (iv xs.length E) 3) : OrdIn w a c xs gE E := by
  have hin : inO xs = true := inOrd_laid hl
  obtain ⟨x0, K, hxs⟩ := tree_fo hin
  refine ⟨h.tat, hr, ⟨D, ?_⟩, h.words, h.txt⟩
  rw [hxs] at hl ⊢
  exact laid_good hl
theorem ordT_tf {xs ys : List Nd} (h1 : inO xs = true) (h2 : inO ys = false) : ordT xs ys = 1 := by simp [ordT, h1, h2]
theorem ordT_ft {xs ys : List Nd} (h1 : inO xs = false) (h2 : inO ys = true) : ordT xs ys = -1 := by simp [ordT, h1, h2]
theorem ordT_ff {xs ys : List Nd} (h1 : inO xs = false) (h2 : inO ys = false) : ordT xs ys = 0 := by simp [ordT, h1, h2]
set_option maxRecDepth 100000 in
set_option maxHeartbeats 1000000 in
theorem rOrder_any (w : World) (a b : Option Addr) (c1 c2 : Nat) (xs ys : List Nd) (hx : TW w a xs) (hy : TW w b ys) :
    Calls Tryz.prog 24 #[.agg #[.slice a xs.length c1], .agg #[.slice b ys.length c2]] w fun e w' => e = .returned (.int .i64 (ordT xs ys)) ∧ Below w.heap.size w w' := by
  have hA : Lies ((w.alloc (.cells #[.slice a xs.length c1] 27)).alloc (.cells #[.slice b ys.length c2] 27)) w.heap.size #[.slice a xs.length c1] 27 := (Lies.new _ _ _).alloc _
  have hB : Lies ((w.alloc (.cells #[.slice a xs.length c1] 27)).alloc (.cells #[.slice b ys.length c2] 27)) (w.heap.size + 1) #[.slice b ys.length c2] 27 := by
    have := Lies.new (w.alloc (.cells #[.slice a xs.length c1] 27)) #[.slice b ys.length c2] 27
    simpa using this
  have hb0 : Below w.heap.size w ((w.alloc (.cells #[.slice a xs.length c1] 27)).alloc (.cells #[.slice b ys.length c2] 27)) := ((Below.refl _ _).alloc (Nat.le_refl _) _).alloc (by simp) _
  have H := Lib.hid (And.intro hx hy)
  clear hx hy
  go_enter Tryz.func24, Tryz.ntmps24
  go_upto_region 1 with fail
  generalize (w.alloc (.cells #[.slice a xs.length c1] 27)).alloc (.cells #[.slice b ys.length c2] 27) = W0 at hA hB hb0 ⊢
  have hS : ∀ V, Below W0.heap.size W0 V → V.cell? ⟨w.heap.size, 0, none⟩ = some (.slice a xs.length c1) ∧ V.cell? ⟨w.heap.size + 1, 0, none⟩ = some (.slice b ys.length c2) ∧ TW V a xs ∧ TW V b ys ∧ Below w.heap.size w V := fun V hV => by
    have hbw := hb0.trans (hV.mono hb0.size)
    exact ⟨(hA.below hV hA.lt).cell 0 rfl, (hB.below hV hB.lt).cell 0 rfl, H.out.1.below hbw, H.out.2.below hbw, hbw⟩
  have HS := Lib.hid hS
  obtain ⟨s1, s2, t1, t2, -⟩ := hS W0 (Below.refl _ _)
  have he1 := ends_any W0 a xs.length c1 (ksOf xs) t1.tat.2.1 t1.tat.ks
  have H1 := Lib.hid he1
  clear hA hB hb0 hS t1 t2 he1
  go_wp2_with fail
  refine H1.out.mono ?_
  rintro e w2 he
  have hb2 : Below W0.heap.size W0 w2 := by
    rcases he with ⟨E, D, gE, hl, rfl, -, -, hb⟩ | ⟨hl, x, m, c, rfl, hb⟩ <;> exact hb
  obtain ⟨u1, u2, t1, t2, -⟩ := HS.out w2 hb2
  have he2 := ends_any w2 b ys.length c2 (ksOf ys) t2.tat.2.1 t2.tat.ks
  have H2 := Lib.hid (And.intro he2 hb2)
  clear he2 t1 t2 s1 s2 hb2
  rcases he with ⟨E, D, gE, hl, rfl, -, hr1, hb⟩ | ⟨hl, x, m, c, rfl, hb⟩
  · have HL1 := Lib.hid (And.intro hl hr1)
    clear hl hr1 hb
    go_wp2_with fail
    refine H2.out.1.mono ?_
    rintro e w3 (⟨F, D', gF, hl2, rfl, -, hr2, hb3⟩ | ⟨hl2, x, m, c, rfl, hb3⟩)
    · have hb03 := H2.out.2.trans (hb3.mono H2.out.2.size)
      obtain ⟨v1, v2, t1, t2, hbw3⟩ := HS.out w3 hb03
      have i1 : inO xs = true := inOrd_laid HL1.out.1
      have i2 : inO ys = true := inOrd_laid hl2
      have o1 := ordIn_of c1 t1 HL1.out.1 (HL1.out.2.below hb3 HL1.out.2.lt)
      have o2 := ordIn_of c2 t2 hl2 hr2
      obtain ⟨x0, K, hxs⟩ := tree_fo i1
      obtain ⟨y0, L, hys⟩ := tree_fo i2
      have a1 : AtFo xs 0 x0 K [] := by unfold AtFo; rw [hxs]; simp [Fo.flat]
      have a2 : AtFo ys 0 y0 L [] := by unfold AtFo; rw [hys]; simp [Fo.flat]
      have hc := rord_at (K.len + 1) w3 a b c1 c2 xs ys gE gF E F 0 0 x0 y0 K L [] [] (Nat.lt_succ_self _) o1 o2 a1 a2
      have hval : (Fo.cons x0 K .nil).cmp (.cons y0 L .nil) = ordT xs ys := by
        have wx := t1.words
        have wy := t2.words
        rw [hxs] at wx
        rw [hys] at wy
        rw [hxs, hys]
        exact (ord_fo _ _ rfl rfl wx wy).symm
      rw [hval] at hc
      have HC := Lib.hid (And.intro hc hbw3)
      clear hc hbw3 hval a1 a2 hxs hys o1 o2 i1 i2 t1 t2 hl2 hr2 hb3 hb03 u1 u2
      go_wp2_with fail
      refine HC.out.1.mono ?_
      rintro e w4 ⟨rfl, hb4⟩
      have HF := Lib.hid (HC.out.2.trans (hb4.mono HC.out.2.size))
      clear hb4 v1 v2
      go_wp2_with fail
      go_ret
      exact ⟨rfl, HF.out⟩
    · have hbw3 := (HS.out w3 (H2.out.2.trans (hb3.mono H2.out.2.size))).2.2.2.2
      have e : ordT xs ys = 1 := ordT_tf (inOrd_laid HL1.out.1) (inOrd_none hl2)
      have HF := Lib.hid (And.intro e hbw3)
      clear e hbw3 hl2 hb3 u1 u2
      go_wp2_with fail
      go_ret
      exact ⟨by rw [HF.out.1]; rfl, HF.out.2⟩
  · have HL1 := Lib.hid hl
    clear hl hb
    go_wp2_with fail
    refine H2.out.1.mono ?_
    rintro e w3 (⟨F, D', gF, hl2, rfl, -, hr2, hb3⟩ | ⟨hl2, x, m, c, rfl, hb3⟩)
    · have hbw3 := (HS.out w3 (H2.out.2.trans (hb3.mono H2.out.2.size))).2.2.2.2
      have e : ordT xs ys = -1 := ordT_ft (inOrd_none HL1.out) (inOrd_laid hl2)
      have HF := Lib.hid (And.intro e hbw3)
      clear e hbw3 hl2 hb3 u1 u2 hr2
      go_wp2_with fail
      go_ret
      exact ⟨by rw [HF.out.1]; rfl, HF.out.2⟩
    · have hbw3 := (HS.out w3 (H2.out.2.trans (hb3.mono H2.out.2.size))).2.2.2.2
      have e : ordT xs ys = 0 := ordT_ff (inOrd_none HL1.out) (inOrd_none hl2)
      have HF := Lib.hid (And.intro e hbw3)
      clear e hbw3 hl2 hb3 u1 u2
      go_wp2_with fail
      go_ret
      exact ⟨by rw [HF.out.1]; rfl, HF.out.2⟩
set_option maxRecDepth 100000 in
set_option maxHeartbeats 1000000 in
theorem rSame_any (w : World) (a b : Option Addr) (c1 c2 : Nat) (xs ys : List Nd) (hx : TW w a xs) (hy : TW w b ys) :
    Calls Tryz.prog 26 #[.agg #[.slice a xs.length c1], .agg #[.slice b ys.length c2]] w fun e w' => e = .returned (.bool (sameT xs ys)) ∧ Below w.heap.size w w' := by
  have hA : Lies ((w.alloc (.cells #[.slice a xs.length c1] 27)).alloc (.cells #[.slice b ys.length c2] 27)) w.heap.size #[.slice a xs.length c1] 27 := (Lies.new _ _ _).alloc _
  have hB : Lies ((w.alloc (.cells #[.slice a xs.length c1] 27)).alloc (.cells #[.slice b ys.length c2] 27)) (w.heap.size + 1) #[.slice b ys.length c2] 27 := by
    have := Lies.new (w.alloc (.cells #[.slice a xs.length c1] 27)) #[.slice b ys.length c2] 27
    simpa using this
  have hb0 : Below w.heap.size w ((w.alloc (.cells #[.slice a xs.length c1] 27)).alloc (.cells #[.slice b ys.length c2] 27)) := ((Below.refl _ _).alloc (Nat.le_refl _) _).alloc (by simp) _
  have H := Lib.hid (And.intro hx hy)
  clear hx hy
  go_enter Tryz.func26, Tryz.ntmps26
  go_upto_region 1 with fail
  generalize (w.alloc (.cells #[.slice a xs.length c1] 27)).alloc (.cells #[.slice b ys.length c2] 27) = W0 at hA hB hb0 ⊢
  have hS : ∀ V, Below W0.heap.size W0 V → V.cell? ⟨w.heap.size, 0, none⟩ = some (.slice a xs.length c1) ∧ V.cell? ⟨w.heap.size + 1, 0, none⟩ = some (.slice b ys.length c2) ∧ TW V a xs ∧ TW V b ys := fun V hV => by
    have hbw := hb0.trans (hV.mono hb0.size)
    exact ⟨(hA.below hV hA.lt).cell 0 rfl, (hB.below hV hB.lt).cell 0 rfl, H.out.1.below hbw, H.out.2.below hbw⟩
  obtain ⟨s1, s2, -, -⟩ := hS W0 (Below.refl _ _)
  obtain ⟨ix, hix⟩ : ∃ i, i = inO xs := ⟨_, rfl⟩
  obtain ⟨iy, hiy⟩ : ∃ i, i = inO ys := ⟨_, rfl⟩
  obtain ⟨r, hr⟩ : ∃ i, i = ordT xs ys := ⟨_, rfl⟩
  have hq1 : ∀ V, Below W0.heap.size W0 V → Calls Tryz.prog 47 #[.agg #[.slice a xs.length c1]] V fun e w' => e = .returned (.bool ix) ∧ Below W0.heap.size W0 w' := fun V hV => (rinO_any V a xs.length c1 (ksOf xs) (hS V hV).2.2.1.tat.2.1 (hS V hV).2.2.1.tat.ks).mono fun e w' h => ⟨by rw [hix]; exact h.1, hV.trans (h.2.mono hV.size)⟩
  have hq2 : ∀ V, Below W0.heap.size W0 V → Calls Tryz.prog 47 #[.agg #[.slice b ys.length c2]] V fun e w' => e = .returned (.bool iy) ∧ Below W0.heap.size W0 w' := fun V hV => (rinO_any V b ys.length c2 (ksOf ys) (hS V hV).2.2.2.tat.2.1 (hS V hV).2.2.2.tat.ks).mono fun e w' h => ⟨by rw [hiy]; exact h.1, hV.trans (h.2.mono hV.size)⟩
  have hq3 : ∀ V, Below W0.heap.size W0 V → Calls Tryz.prog 24 #[.agg #[.slice a xs.length c1], .agg #[.slice b ys.length c2]] V fun e w' => e = .returned (.int .i64 r) ∧ Below W0.heap.size W0 w' := fun V hV => (rOrder_any V a b c1 c2 xs ys (hS V hV).2.2.1 (hS V hV).2.2.2).mono fun e w' h => ⟨by rw [hr]; exact h.1, hV.trans (h.2.mono hV.size)⟩
  have hR : sameT xs ys = (ix && (iy && r == 0)) := by
    unfold sameT
    rw [hix, hiy, hr]
    cases h1 : inO xs with
    | false => rfl
    | true =>
      cases h2 : inO ys with
      | false => rw [ordT_tf h1 h2]; rfl
      | true => rfl
  have HR := Lib.hid hR
  have HB0 := Lib.hid hb0
  have HS := Lib.hid hS
  have HQ := Lib.hid (And.intro hq1 (And.intro hq2 hq3))
  clear hA hB hb0 hS hq1 hq2 hq3 hix hiy hr hR
  cases ix with
  | false =>
    go_wp2_with fail
    refine (HQ.out.1 _ (Below.refl _ _)).mono ?_
    rintro e w1 ⟨rfl, hb1⟩
    have HB1 := Lib.hid hb1
    clear hb1 s1 s2
    go_wp2_with fail
    go_ret
    exact ⟨by rw [HR.out]; rfl, HB0.out.trans (HB1.out.mono HB0.out.size)⟩
  | true =>
    go_wp2_with fail
    refine (HQ.out.1 _ (Below.refl _ _)).mono ?_
    rintro e w1 ⟨rfl, hb1⟩
    obtain ⟨u1, u2, -, -⟩ := HS.out _ hb1
    have HB1 := Lib.hid hb1
    clear hb1 s1 s2
    cases iy with
    | false =>
      go_wp2_with fail
      refine (HQ.out.2.1 _ HB1.out).mono ?_
      rintro e w2 ⟨rfl, hb2⟩
      have HB2 := Lib.hid hb2
      clear hb2 u1 u2
      go_wp2_with fail
      go_ret
      exact ⟨by rw [HR.out]; rfl, HB0.out.trans (HB2.out.mono HB0.out.size)⟩
    | true =>
      go_wp2_with fail
      refine (HQ.out.2.1 _ HB1.out).mono ?_
      rintro e w2 ⟨rfl, hb2⟩
      obtain ⟨v1, v2, -, -⟩ := HS.out _ hb2
      have HB2 := Lib.hid hb2
      clear hb2 u1 u2
      go_wp2_with fail
      refine (HQ.out.2.2 _ HB2.out).mono ?_
      rintro e w3 ⟨rfl, hb3⟩
      have HB3 := Lib.hid hb3
      clear hb3 v1 v2
      have hz : ((0 : Int) == 0) = true := by rfl
      by_cases h0 : r = 0
      · subst h0
        go_wp2_with fail
        go_ret
        exact ⟨by rw [HR.out]; rfl, HB0.out.trans (HB3.out.mono HB0.out.size)⟩
      · have h1 : (r == 0) = false := by simpa using h0
        rw [h1] at HR
        go_wp2_with fail
        go_ret
        exact ⟨by rw [HR.out]; rfl, HB0.out.trans (HB3.out.mono HB0.out.size)⟩
end Go.Proofs.YtieoiklgoeclaaaGreat
