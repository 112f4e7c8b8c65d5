/-
  Balance: does what goes in, and is minted, come out, with the fee?
-/
import Derived.Test.YtjngghihciimjaaVcc
import Derived.Test.YtjngghihciimjaaVeq
namespace Go.Proofs.Ytjngghihciimjaa
set_option maxRecDepth 100000
open Go.RowKit Go.Sort Go.Maps

theorem OwnVs.row {w : World} {B : Nat} {v : Value} {vs : List Va} (h : OwnVs w B v vs) (ho : ∀ a, a ∈ vs → VaOk w a) (hl : vs.length ≤ maxLen) : ∃ pa c, v = .slice pa vs.length c ∧ RowV w pa vs := by
  rcases own_at vaC 2 (fun a _ => vaC_size a) h with ⟨h1, rfl⟩ | ⟨g, cap, h1, h2, h3, h4, h5, _⟩
  · exact ⟨none, 0, h1, hl, fun h => absurd h (by simp)⟩
  · exact ⟨_, cap, h1, hl, fun _ => ⟨g, 0, rfl, h3, fun i a hi => ⟨h5 i a hi, ho a (List.mem_of_getElem? hi)⟩⟩⟩
theorem RowV.ok {w : World} {pa : Option Addr} {vs : List Va} (h : RowV w pa vs) : ∀ v, v ∈ vs → VaOk w v := fun v hv => by
  obtain ⟨i, hi⟩ := List.getElem?_of_mem hv
  obtain ⟨g, off, _, _, hh⟩ := h.2 (by have := (List.getElem?_eq_some_iff.1 hi).1; omega)
  exact (hh i v hi).2
/-- The sums of a row and one more: the world that Concat is called in, and what it gives. -/
theorem more_any (w : World) (g1 g2 : Nat) (pi : Option Addr) (vs : List Va) (ci : Nat) (m : Va) (h : RowV w pi vs) (hm : VaOk w m) (hci : pi = none → ci = 0) (hlen : vs.length + 1 ≤ 1000000)
    (h1 : Lies w g1 (vaC m) 24) (h2 : Lies w g2 #[.slice pi vs.length ci, .slice (some ⟨g1, 0, none⟩) 1 1] 29) :
    Calls Try.prog 37 #[.slice (some ⟨g2, 0, none⟩) 2 2] w fun e w' => (∃ p c, e = .returned (.slice p (vs ++ [m]).length c) ∧ RowV w' p (vs ++ [m])) ∧ Below w.heap.size w w' := by
  have hrow : RowR w (some ⟨g2, 0, none⟩) [⟨pi, vs, ci⟩, ⟨some ⟨g1, 0, none⟩, [m], 1⟩] := ⟨show 2 ≤ maxLen by decide, fun _ => ⟨g2, 0, rfl, h2.lt, fun i r hr => by
    have hi : i = 0 ∨ i = 1 := by have := (List.getElem?_eq_some_iff.1 hr).1; simp at this; omega
    rcases hi with rfl | rfl
    · simp at hr; subst hr; exact ⟨h2.cell 0 rfl, h⟩
    · simp at hr; subst hr
      exact ⟨h2.cell 1 rfl, rowV_of h1 (by simp [cellsF]) (fun v hv => by rw [List.mem_singleton] at hv; rw [hv]; exact hm) (show 1 ≤ maxLen by decide)⟩⟩⟩
  have hfl : flatV [⟨pi, vs, ci⟩, ⟨some ⟨g1, 0, none⟩, [m], 1⟩] = vs ++ [m] := by simp [flatV]
  have hc := concat_any w (some ⟨g2, 0, none⟩) [⟨pi, vs, ci⟩, ⟨some ⟨g1, 0, none⟩, [m], 1⟩] 2 hrow (by rw [hfl, List.length_append]; simpa using hlen) (fun r hr hp => by
    rcases List.mem_cons.1 hr with rfl | hr
    · exact hci hp
    · rw [List.mem_singleton] at hr; subst hr; cases hp)
  refine hc.mono fun e w' hh => ?_
  obtain ⟨⟨v, he, hown⟩, hb⟩ := hh
  rw [hfl] at hown
  obtain ⟨p, c, hv, hr⟩ := hown.row (fun a ha => by
    rcases List.mem_append.1 ha with ha | ha
    · exact (h.ok a ha).below hb (Nat.le_refl _)
    · rw [List.mem_singleton] at ha; rw [ha]; exact hm.below hb (Nat.le_refl _)) (by rw [List.length_append]; exact Nat.le_trans hlen (by decide))
  exact ⟨⟨p, c, by rw [he, hv], hr⟩, hb⟩
def BalOk (vs us : List Va) (ok : Bool) : Prop := ok = true ↔ coinS vs = coinS us ∧ ∀ n, sumAt (ctsL vs) n = sumAt (ctsL us) n
def BalRes (vs us : List Va) (e : Ending) : Prop := ∃ ok, e = .returned (.bool ok) ∧ BalOk vs us ok
theorem tot_same {vs us : List Va} {lt lu : List To} (h : IsTot (sumAt (ctsL vs)) (lt.map fun t => (t.nm, t.w))) (k : IsTot (sumAt (ctsL us)) (lu.map fun t => (t.nm, t.w))) : lt = lu ↔ ∀ n, sumAt (ctsL vs) n = sumAt (ctsL us) n := by
  constructor
  · rintro rfl n
    rw [← h.sum n, ← k.sum n]
  · intro e
    exact ctT_inj ((h.congr fun n => e n).eq k)
set_option maxHeartbeats 8000000 in
theorem balance_any (w : World) (pi : Option Addr) (vs : List Va) (ci : Nat) (pm : Option Addr) (ml : List As) (cm : Nat) (po : Option Addr) (us : List Va) (co : Nat) (fee : Int)
    (hv : RowV w pi vs) (hm : Row w pm ml) (hu : RowV w po us) (f0 : -9223372036854775808 ≤ fee) (f1 : fee < 9223372036854775808) (hci : pi = none → ci = 0) (hco : po = none → co = 0)
    (n1 : vs.length + 1 ≤ 1000000) (n2 : us.length + 1 ≤ 1000000) (c1 : (ctsL (vs ++ [⟨0, pm, ml, cm⟩])).length ≤ 1000000) (c2 : (ctsL (us ++ [⟨fee, none, [], 0⟩])).length ≤ 1000000)
    (a1 : ∀ p, p ∈ ctsL (vs ++ [⟨0, pm, ml, cm⟩]) → p.1.1.length = 32 ∧ p.1.2.length ≤ 281474976710656) (a2 : ∀ p, p ∈ ctsL (us ++ [⟨fee, none, [], 0⟩]) → p.1.1.length = 32 ∧ p.1.2.length ≤ 281474976710656) :
    Calls Try.prog 17 #[.slice pi vs.length ci, .slice pm ml.length cm, .slice po us.length co, .int .i64 fee] w fun e w' => BalRes (vs ++ [⟨0, pm, ml, cm⟩]) (us ++ [⟨fee, none, [], 0⟩]) e ∧ Below w.heap.size w w' := by
  have hcon : ∀ W g1 g2, Below w.heap.size w W → Lies W g1 #[.int .i64 0, .slice pm ml.length cm] 24 → Lies W g2 #[.slice pi vs.length ci, .slice (some ⟨g1, 0, none⟩) 1 1] 29 → Calls Try.prog 37 #[.slice (some ⟨g2, 0, none⟩) 2 2] W fun e w' => (∃ p c, e = .returned (.slice p (vs ++ [(⟨0, pm, ml, cm⟩ : Va)]).length c) ∧ RowV w' p (vs ++ [⟨0, pm, ml, cm⟩])) ∧ Below W.heap.size W w' := fun W g1 g2 hW q1 q2 =>
    more_any W g1 g2 pi vs ci ⟨0, pm, ml, cm⟩ (hv.below hW (Nat.le_refl _)) ⟨by show (-9223372036854775808 : Int) ≤ 0; omega, by show (0 : Int) < 9223372036854775808; omega, hm.below hW (Nat.le_refl _)⟩ hci n1 q1 q2
  have hcon2 : ∀ W g1 g2, Below w.heap.size w W → Lies W g1 #[.int .i64 fee, .slice none 0 0] 24 → Lies W g2 #[.slice po us.length co, .slice (some ⟨g1, 0, none⟩) 1 1] 29 → Calls Try.prog 37 #[.slice (some ⟨g2, 0, none⟩) 2 2] W fun e w' => (∃ p c, e = .returned (.slice p (us ++ [(⟨fee, none, [], 0⟩ : Va)]).length c) ∧ RowV w' p (us ++ [⟨fee, none, [], 0⟩])) ∧ Below W.heap.size W w' := fun W g1 g2 hW q1 q2 =>
    more_any W g1 g2 po us co ⟨fee, none, [], 0⟩ (hu.below hW (Nat.le_refl _)) ⟨f0, f1, row_nil _⟩ hco n2 q1 q2
  obtain ⟨vm, hvm⟩ : ∃ l, l = vs ++ [(⟨0, pm, ml, cm⟩ : Va)] := ⟨_, rfl⟩
  obtain ⟨uf, huf⟩ : ∃ l, l = us ++ [(⟨fee, none, [], 0⟩ : Va)] := ⟨_, rfl⟩
  rw [← hvm] at hcon c1 a1 ⊢
  rw [← huf] at hcon2 c2 a2 ⊢
  have H := Lib.hid (And.intro hcon (And.intro hcon2 (And.intro c1 (And.intro c2 (And.intro a1 a2)))))
  clear hcon hcon2 c1 c2 a1 a2 hvm huf hv hm hu f0 f1 hci hco n1 n2
  have hb1 : Below w.heap.size w ((w.alloc (.cells #[.int .i64 0, .slice pm ml.length cm] 24)).alloc (.cells #[.slice pi vs.length ci, .slice (some ⟨w.heap.size, 0, none⟩) 1 1] 29)) := ((Below.refl _ _).alloc (Nat.le_refl _) _).alloc (by simp) _
  have hL2 := Lies.new (w.alloc (.cells #[.int .i64 0, .slice pm ml.length cm] 24)) #[.slice pi vs.length ci, .slice (some ⟨w.heap.size, 0, none⟩) 1 1] 29
  have hcc := H.out.1 ((w.alloc (.cells #[.int .i64 0, .slice pm ml.length cm] 24)).alloc (.cells #[.slice pi vs.length ci, .slice (some ⟨w.heap.size, 0, none⟩) 1 1] 29)) w.heap.size (w.heap.size + 1) hb1 ((Lies.new _ _ _).alloc _) (by simpa using hL2)
  clear hL2
  have HC := Lib.hid (And.intro hcc hb1)
  clear hcc hb1
  go_enter Try.func17, Try.ntmps17
  go_wp2_with fail
  refine HC.out.1.mono ?_
  rintro e w2 ⟨⟨p2, c2, rfl, hr2⟩, hb2⟩
  have hbw2 := HC.out.2.trans (hb2.mono HC.out.2.size)
  have hs2 := sums_any totals_any w2 p2 vm c2 hr2 H.out.2.2.1 H.out.2.2.2.2.1
  have H2 := Lib.hid (And.intro hbw2 hs2)
  clear hbw2 hs2 hb2 hr2 HC
  go_wp2_with fail
  refine H2.out.2.mono ?_
  rintro e w3 ⟨⟨p3, lt, c3, rfl, hr3, ht3⟩, hb3⟩
  have hbw3 := H2.out.1.trans (hb3.mono H2.out.1.size)
  obtain ⟨s, hs⟩ : ∃ s, s = coinS vm := ⟨_, rfl⟩
  rw [← hs]
  have H3 := Lib.hid (And.intro hbw3 (And.intro hr3 (And.intro ht3 hs)))
  clear hbw3 hb3 hr3 ht3 hs H2
  unfold wv
  go_upto_region 2 with fail
  have hb4 : Below w3.heap.size w3 (w3.alloc (.cells #[.int .i64 (hiS s), .int .u64 (loN s)] 39)) := (Below.refl _ _).alloc (Nat.le_refl _) _
  have hL4 : Lies (w3.alloc (.cells #[.int .i64 (hiS s), .int .u64 (loN s)] 39)) w3.heap.size #[.int .i64 (hiS s), .int .u64 (loN s)] 39 := Lies.new _ _ _
  generalize w3.alloc (.cells #[.int .i64 (hiS s), .int .u64 (loN s)] 39) = w4 at hb4 hL4 ⊢
  obtain ⟨b4, hb4e⟩ : ∃ b, b = w3.heap.size := ⟨_, rfl⟩
  rw [← hb4e] at hL4 ⊢
  have hbw4 := H3.out.1.trans (hb4.mono H3.out.1.size)
  have hr4 := H3.out.2.1.below hb4 (Nat.le_refl _)
  have H4 := Lib.hid (And.intro hbw4 (And.intro hr4 hL4))
  clear hb4 hL4 hbw4 hr4 hb4e
  have hb5 : Below w4.heap.size w4 ((w4.alloc (.cells #[.int .i64 fee, .slice none 0 0] 24)).alloc (.cells #[.slice po us.length co, .slice (some ⟨w4.heap.size, 0, none⟩) 1 1] 29)) := ((Below.refl _ _).alloc (Nat.le_refl _) _).alloc (by simp) _
  have hL5 := Lies.new (w4.alloc (.cells #[.int .i64 fee, .slice none 0 0] 24)) #[.slice po us.length co, .slice (some ⟨w4.heap.size, 0, none⟩) 1 1] 29
  have hcc := H.out.2.1 ((w4.alloc (.cells #[.int .i64 fee, .slice none 0 0] 24)).alloc (.cells #[.slice po us.length co, .slice (some ⟨w4.heap.size, 0, none⟩) 1 1] 29)) w4.heap.size (w4.heap.size + 1) (H4.out.1.trans (hb5.mono H4.out.1.size)) ((Lies.new _ _ _).alloc _) (by simpa using hL5)
  have HC := Lib.hid (And.intro hcc hb5)
  clear hcc hb5 hL5
  go_wp2_with fail
  refine HC.out.1.mono ?_
  rintro e w6 ⟨⟨p6, c6, rfl, hr6⟩, hb6⟩
  have hb46 := HC.out.2.trans (hb6.mono HC.out.2.size)
  have hs6 := sums_any totals_any w6 p6 uf c6 hr6 H.out.2.2.2.1 H.out.2.2.2.2.2
  have H6 := Lib.hid (And.intro hb46 hs6)
  clear hb46 hs6 hb6 hr6 HC
  go_wp2_with fail
  refine H6.out.2.mono ?_
  rintro e w7 ⟨⟨p7, lu, c7, rfl, hr7, ht7⟩, hb7⟩
  have hb47 := H6.out.1.trans (hb7.mono H6.out.1.size)
  obtain ⟨s', hs'⟩ : ∃ s, s = coinS uf := ⟨_, rfl⟩
  rw [← hs']
  have H7 := Lib.hid (And.intro hb47 (And.intro hr7 (And.intro ht7 hs')))
  clear hb47 hb7 hr7 ht7 hs' H6
  unfold wv
  go_upto_region 3 with fail
  have hb8 : Below w7.heap.size w7 (w7.alloc (.cells #[.int .i64 (hiS s'), .int .u64 (loN s')] 39)) := (Below.refl _ _).alloc (Nat.le_refl _) _
  have hL8 : Lies (w7.alloc (.cells #[.int .i64 (hiS s'), .int .u64 (loN s')] 39)) w7.heap.size #[.int .i64 (hiS s'), .int .u64 (loN s')] 39 := Lies.new _ _ _
  generalize w7.alloc (.cells #[.int .i64 (hiS s'), .int .u64 (loN s')] 39) = w8 at hb8 hL8 ⊢
  have hb48 := H7.out.1.trans (hb8.mono H7.out.1.size)
  have hL48 := H4.out.2.2.below hb48 H4.out.2.2.lt
  have q0 := hL48.cell 0 (v := .int .i64 (hiS s)) rfl
  have q1 := hL48.cell 1 (v := .int .u64 (loN s)) rfl
  have q2 := hL8.cell 0 (v := .int .i64 (hiS s')) rfl
  have q3 := hL8.cell 1 (v := .int .u64 (loN s')) rfl
  have hbw8 := H4.out.1.trans (hb48.mono H4.out.1.size)
  have hrl := H4.out.2.1.below hb48 (Nat.le_refl _)
  have hru := H7.out.2.1.below hb8 (Nat.le_refl _)
  by_cases hss : s = s'
  · have heq : ∀ W, (Op.equalIn 10000 39 (.agg #[.int .i64 (hiS s), .int .u64 (loN s)]) (.agg #[.int .i64 (hiS s'), .int .u64 (loN s')])).run Try.prog W = .ok true W := fun W => by
      have := eq_w W s s'
      rw [decide_eq_true hss] at this
      exact this
    have hc := equalT_any w8 p3 p7 lt lu c3 c7 hrl hru
    have HE := Lib.hid (And.intro hc (And.intro hbw8 hss))
    clear hc hbw8 hss hrl hru hL48 hL8 hb48 hb8
    go_wp2_with fail
    refine HE.out.1.mono ?_
    rintro e w9 ⟨rfl, hb9⟩
    have HF := Lib.hid (HE.out.2.1.trans (hb9.mono HE.out.2.1.size))
    clear hb9
    go_wp2_with fail
    go_ret
    refine ⟨⟨decide (lt = lu), rfl, ?_⟩, HF.out⟩
    unfold BalOk
    rw [decide_eq_true_iff, tot_same H3.out.2.2.1 H7.out.2.2.1, ← H3.out.2.2.2, ← H7.out.2.2.2]
    exact ⟨fun h => ⟨HE.out.2.2, h⟩, fun h => h.2⟩
  · have heq : ∀ W, (Op.equalIn 10000 39 (.agg #[.int .i64 (hiS s), .int .u64 (loN s)]) (.agg #[.int .i64 (hiS s'), .int .u64 (loN s')])).run Try.prog W = .ok false W := fun W => by
      have := eq_w W s s'
      rw [decide_eq_false hss] at this
      exact this
    have HE := Lib.hid (And.intro hbw8 hss)
    clear hbw8 hss hrl hru hL48 hL8 hb48 hb8
    go_wp2_with fail
    go_ret
    refine ⟨⟨false, rfl, ?_⟩, HE.out.1⟩
    unfold BalOk
    rw [← H3.out.2.2.2, ← H7.out.2.2.2]
    exact ⟨fun h => absurd h (by decide), fun h => absurd h.1 HE.out.2⟩
end Go.Proofs.Ytjngghihciimjaa
