/-
  The mark of a total (126), and what the walk of flatTotals rests on.
-/
import Derived.Test.YtjngghihciimjaaGreatJRe
import Derived.Test.YtjngghihciimjaaGreatJVmc
import Derived.Maps.AppendAt
import Derived.Test.YtjngghihciimjaaGreatJRo
import Derived.Test.YtjngghihciimjaaGreatJRj
import Derived.Laws.MakeOwn
import Derived.Test.YtjngghihciimjaaGreatJAg
import Derived.Lib.QuietBelow
import Derived.BigQuiet
import Derived.Deep.DeepMust
import Derived.Deep.Cut
import Derived.Test.YtjngghihciimjaaGreatJVj
import Derived.Test.YtjngghihciimjaaGreatJRa
namespace Go.Proofs.YtjngghihciimjaaGreat
set_option maxRecDepth 100000
open Go.RowKit Go.Sort Go.Maps
def SrcV (w : World) (bv : Value) (xs : List Va) : Prop := (bv = .slice none 0 0 ∧ xs = []) ∨ ∃ ad c, bv = .slice (some ad) xs.length c ∧ ∀ j u, (cellsF vaC xs)[j]? = some u → w.cell? (ad.add j) = some u
theorem rowV_src {w : World} {pa : Option Addr} {vs : List Va} {c : Nat} (h : RowV w pa vs) (hc : pa = none → c = 0) : SrcV w (.slice pa vs.length c) vs := by
  cases pa with
  | none =>
    have hn : vs = [] := by
      rcases Nat.eq_zero_or_pos vs.length with h0 | h0
      · exact List.eq_nil_of_length_eq_zero h0
      · obtain ⟨g, off, h1, -⟩ := h.2 h0
        cases h1
    subst hn
    rw [hc rfl]
    exact .inl ⟨rfl, rfl⟩
  | some ad =>
    refine .inr ⟨ad, c, rfl, fun j u hu => ?_⟩
    have h0 : 0 < vs.length := by
      have := (List.getElem?_eq_some_iff.1 hu).1
      rw [cellsF_len vaC 2 _ fun a _ => vaC_size a] at this
      omega
    obtain ⟨g, off, h1, h2, h3⟩ := h.2 h0
    cases h1
    exact cellsF_src vaC 2 (by decide) (fun a _ => vaC_size a) (fun i a ha => (h3 i a ha).1) j u hu
theorem lies_src {w : World} {g : Nat} {m : Va} (h : Lies w g #[.int .i64 m.coin, .slice m.pa m.l.length m.c] 24) : SrcV w (.slice (some ⟨g, 0, none⟩) 1 1) [m] := .inr ⟨⟨g, 0, none⟩, 1, rfl, src_one vaC (a := m) h⟩
theorem own_empty (w : World) : OwnVs (w.alloc (.cells #[] 24)) w.heap.size (.slice (some ⟨w.heap.size, 0, none⟩) 0 0) [] :=
 ⟨rfl, .inr ⟨w.heap.size, 0, #[], rfl, Nat.le_refl _, Lies.new w #[] 24, Nat.le_refl _, by unfold maxLen; omega, rfl, rfl⟩⟩
theorem run_slice0 (w : World) : (Instr.buildSlice 28 0 #[]).run Tryz.prog w = .ok (.slice (some ⟨w.heap.size, 0, none⟩) 0 0) (w.alloc (.cells #[] 24)) := by
 obtain ⟨i, z, h1, h2, h3, h4, h5⟩ := info_parts info24
 have e : ((Array.range 0).map fun _ : Nat => (default : Value)) = #[] := by simp
 simp [Instr.buildSlice, run_underlying Tryz.underlying28, sizeOf, typeInfo, h1, Instr.fill, newRow]
 rw [e]
theorem wpList_append_V {ops : Array Oper} {rest : List Oper} {o : Oper} {a : Act} {w : World} {Q : Exit → Act → World → Prop} (hgd : o.guard = none) (s x : Operand)
  (ho : o.op = .call { callee := .builtin .append, args := #[s, x], argTypes := #[28, 28] })
  (B : Nat) (v bv : Value) (ys xs : List Va) (hs : a.eval s = v) (hown : OwnVs w B v ys) (hx : a.eval x = bv) (hsrc : SrcV w bv xs) (hlen : ys.length + xs.length ≤ 1000000) (hB : B ≤ w.heap.size)
  (h : ∀ v' w', OwnVs w' B v' (ys ++ xs) → w.grownBy w' v.ownBlock → wpList Tryz.prog ops Q rest (a.put o.dst v') w') :
  wpList Tryz.prog ops Q (o :: rest) a w := by
 obtain ⟨i0, z0, hi0, hz0, hz1, hz2, hz3⟩ := info_parts info24
 rcases hsrc with ⟨rfl, rfl⟩ | ⟨ad, c, rfl, hsrc⟩
 ·
  refine wpList_append_own_none hgd s x 28 ho B 24 i0 2 Tryz.underlying28 hi0 v ys.length _ hs hown hx ?_
  exact h v w (by rw [List.append_nil]; exact hown) ⟨rfl, rfl, rfl, Nat.le_refl _, fun _ _ _ => rfl⟩
 ·
  refine wpList_append_own_at w hgd s x 28 ho B 24 i0 z0 2 32 Tryz.underlying28 hi0 hz0 hz1 hz2 hz3 (by decide) v ys.length _ hs hown ad xs.length c (cellsF vaC xs) hx (cellsF_len vaC 2 _ fun a _ => vaC_size a) hsrc (cellsF_one vaC _ fun a _ => vaC_one a) (by unfold maxLen; omega) (by omega) hB ?_
  intro v' w' h2 h3 _ _
  exact h v' w' (by unfold OwnVs; rw [List.length_append, cellsF_app]; exact h2) h3
structure CopV (w W : World) (v : Value) (vs : List Va) : Prop where
 below : Below w.heap.size w W
 own : OwnVs W w.heap.size v vs
theorem CopV.start (w : World) : CopV w (w.alloc (.cells #[] 24)) (.slice (some ⟨w.heap.size, 0, none⟩) 0 0) [] := ⟨(Below.refl _ _).alloc (Nat.le_refl _) _, own_empty w⟩
theorem CopV.more {w W U : World} {v v' : Value} {vs xs : List Va} (h : CopV w W v vs) (ho : OwnVs U w.heap.size v' (vs ++ xs)) (hg : W.grownBy U v.ownBlock) : CopV w U v' (vs ++ xs) :=
 ⟨h.below.grown hg h.below.size (fun j hj => (h.own.lt j hj).1), ho⟩
theorem CopV.alloc {w W : World} {v : Value} {vs : List Va} (h : CopV w W v vs) (b : Obj) : CopV w (W.alloc b) v vs :=
 ⟨h.below.alloc h.below.size b, ownsRow_below h.own ((Below.refl _ _).alloc (Nat.le_refl _) _)⟩
theorem CopV.fin {w W : World} {v : Value} {vs vm : List Va} {m : Va} {pi : Option Addr} (h : CopV w W v (vs ++ [m])) (e : vm = vs ++ [m]) (hv : RowV w pi vs) (hm : VaOk w m) (hl : vs.length + 1 ≤ 1000000) : ∃ p c, v = .slice p vm.length c ∧ RowV W p vm := by
 subst e
 exact OwnVs.row h.own (fun a ha => by
  rcases List.mem_append.1 ha with ha | ha
  ·
   exact (hv.ok a ha).below h.below (Nat.le_refl _)
  ·
   rw [List.mem_singleton] at ha; rw [ha]; exact hm.below h.below (Nat.le_refl _)) (by rw [List.length_append]; exact Nat.le_trans hl (by decide))
attribute [-go_sem] Instr.build
attribute [-go_sem] Instr.buildSlice
set_option maxHeartbeats 8000000 in
theorem rbalance_any (w : World) (pi : Option Addr) (vs : List Va) (ci : Nat) (pm : Option Addr) (ml : List As) (cm : Nat) (po : Option Addr) (us : List Va) (co : Nat) (fee : Int)
  (hv : RowV w pi vs) (hm : Row w pm ml) (hu : RowV w po us) (f0 : -9223372036854775808 ≤ fee) (f1 : fee < 9223372036854775808) (hci : pi = none → ci = 0) (hco : po = none → co = 0)
  (n1 : vs.length + 1 ≤ 1000000) (n2 : us.length + 1 ≤ 1000000) (c1 : (ctsL (vs ++ [⟨0, pm, ml, cm⟩])).length ≤ 1000000) (c2 : (ctsL (us ++ [⟨fee, none, [], 0⟩])).length ≤ 1000000)
  (a1 : ∀ p, p ∈ ctsL (vs ++ [⟨0, pm, ml, cm⟩]) → p.1.1.length = 32 ∧ p.1.2.length ≤ maxLen) (a2 : ∀ p, p ∈ ctsL (us ++ [⟨fee, none, [], 0⟩]) → p.1.1.length = 32 ∧ p.1.2.length ≤ maxLen) :
  Calls Tryz.prog 30 #[.slice pi vs.length ci, .slice pm ml.length cm, .slice po us.length co, .int .i64 fee] w fun e w' => BalRes (vs ++ [⟨0, pm, ml, cm⟩]) (us ++ [⟨fee, none, [], 0⟩]) e ∧ Below w.heap.size w w' := by
 have hs0 : ∀ W, (Instr.buildSlice 28 0 #[]).run Tryz.prog W = .ok (.slice (some ⟨W.heap.size, 0, none⟩) 0 0) (W.alloc (.cells #[] 24)) := fun W => run_slice0 W
 have hz1 : ∀ W, (Instr.build 24 #[(1, .slice pm ml.length cm)]).run Tryz.prog W = .ok (.agg #[.int .i64 0, .slice pm ml.length cm]) W := fun W => run_build W 24 _ _ (by kernel_rfl)
 have hz2 : ∀ W, (Instr.build 24 #[(0, .int .i64 fee)]).run Tryz.prog W = .ok (.agg #[.int .i64 fee, .slice none 0 0]) W := fun W => run_build W 24 _ _ (by kernel_rfl)
 have hq1 : ∀ W : World, (Instr.buildSlice 28 1 #[(0, .agg #[.int .i64 0, .slice pm ml.length cm])]).run Tryz.prog W = .ok (.slice (some ⟨W.heap.size, 0, none⟩) 1 1) (W.alloc (.cells #[.int .i64 0, .slice pm ml.length cm] 24)) := fun W => run_slice1 W 28 24 2 32 _ Tryz.underlying28 info24 (by decide) (by decide) rfl
 have hq2 : ∀ W : World, (Instr.buildSlice 28 1 #[(0, .agg #[.int .i64 fee, .slice none 0 0])]).run Tryz.prog W = .ok (.slice (some ⟨W.heap.size, 0, none⟩) 1 1) (W.alloc (.cells #[.int .i64 fee, .slice none 0 0] 24)) := fun W => run_slice1 W 28 24 2 32 _ Tryz.underlying28 info24 (by decide) (by decide) rfl
 have om : VaOk w ⟨0, pm, ml, cm⟩ := ⟨by show (-9223372036854775808 : Int) ≤ 0; omega, by show (0 : Int) < 9223372036854775808; omega, hm⟩
 have of' : VaOk w ⟨fee, none, [], 0⟩ := ⟨f0, f1, row_nil _⟩
 obtain ⟨vm, hvm⟩ : ∃ l, l = vs ++ [(⟨0, pm, ml, cm⟩ : Va)] := ⟨_, rfl⟩
 obtain ⟨uf, huf⟩ : ∃ l, l = us ++ [(⟨fee, none, [], 0⟩ : Va)] := ⟨_, rfl⟩
 rw [← hvm] at c1 a1 ⊢
 rw [← huf] at c2 a2 ⊢
 have HV := Lib.hid (And.intro hvm (And.intro hv (And.intro om (And.intro n1 hci))))
 have HU := Lib.hid (And.intro huf (And.intro hu (And.intro of' (And.intro n2 hco))))
 have H := Lib.hid (And.intro c1 (And.intro a1 (And.intro c2 a2)))
 clear c1 c2 a1 a2 hvm huf hv hm hu f0 f1 hci hco n1 n2 om of'
 have src0 : SrcV (w.alloc (.cells #[] 24)) (.slice pi vs.length ci) vs := rowV_src (HV.out.2.1.below (CopV.start w).below (Nat.le_refl _)) HV.out.2.2.2.2
 have HA := Lib.hid (And.intro (CopV.start w) src0)
 clear src0
 go_enter Tryz.func30, Tryz.ntmps30
 go_wp2_with (at_builtin; go_must (first | (refine wpList_append_V rfl _ _ rfl w.heap.size _ _ [] vs rfl HA.out.1.own rfl HA.out.2 (by have h := HV.out.2.2.2.1; show 0 + vs.length ≤ 1000000; omega) HA.out.1.below.size ?_; intro v1 w1 ho1 hg1; have hc1 : CopV w w1 v1 vs := HA.out.1.more ho1 hg1; have HB := Lib.hid (And.intro (hc1.alloc (.cells #[.int .i64 0, .slice pm ml.length cm] 24)) (lies_src (m := ⟨0, pm, ml, cm⟩) (Lies.new w1 _ _))); clear ho1 hg1 hc1) | (refine wpList_append_V rfl _ _ rfl w.heap.size _ _ vs [⟨0, pm, ml, cm⟩] rfl HB.out.1.own rfl HB.out.2 HV.out.2.2.2.1 HB.out.1.below.size ?_; intro v2 w2 ho2 hg2; obtain ⟨p2, c2, hp2, hr2⟩ := (HB.out.1.more ho2 hg2).fin HV.out.1 HV.out.2.1 HV.out.2.2.1 HV.out.2.2.2.1; have hbw2 := (HB.out.1.more ho2 hg2).below; subst hp2; clear ho2 hg2; have H2 := Lib.hid (And.intro hbw2 (rsums_any w2 p2 vm c2 hr2 H.out.1 H.out.2.1)); clear hbw2 hr2)))
 refine H2.out.2.mono ?_
 rintro e w3 ⟨⟨p3, lt, c3, rfl, hr3, ht3⟩, hb3⟩
 have hbw3 := H2.out.1.trans (hb3.mono H2.out.1.size)
 obtain ⟨s, hs⟩ : ∃ s, s = coinS vm := ⟨_, rfl⟩
 rw [← hs]
 have H3 := Lib.hid (And.intro hbw3 (And.intro hr3 (And.intro ht3 hs)))
 clear hbw3 hb3 hr3 ht3 hs H2 HB
 unfold wv
 go_upto_region 2 with fail
 have hb4 : Below w3.heap.size w3 (w3.alloc (.cells #[.int .i64 (hiS s), .int .u64 (loN s)] 48)) := (Below.refl _ _).alloc (Nat.le_refl _) _
 have hL4 : Lies (w3.alloc (.cells #[.int .i64 (hiS s), .int .u64 (loN s)] 48)) w3.heap.size #[.int .i64 (hiS s), .int .u64 (loN s)] 48 := Lies.new _ _ _
 generalize w3.alloc (.cells #[.int .i64 (hiS s), .int .u64 (loN s)] 48) = w4 at hb4 hL4 ⊢
 obtain ⟨b4, hb4e⟩ : ∃ b, b = w3.heap.size := ⟨_, rfl⟩
 rw [← hb4e] at hL4 ⊢
 have hbw4 := H3.out.1.trans (hb4.mono H3.out.1.size)
 have hr4 := H3.out.2.1.below hb4 (Nat.le_refl _)
 have hu4 := HU.out.2.1.below hbw4 (Nat.le_refl _)
 have src4 : SrcV (w4.alloc (.cells #[] 24)) (.slice po us.length co) us := rowV_src (hu4.below (CopV.start w4).below (Nat.le_refl _)) HU.out.2.2.2.2
 have HA := Lib.hid (And.intro (CopV.start w4) (And.intro src4 (And.intro hu4 (HU.out.2.2.1.below hbw4 (Nat.le_refl _)))))
 have H4 := Lib.hid (And.intro hbw4 (And.intro hr4 hL4))
 clear hb4 hL4 hbw4 hr4 hb4e hu4 src4
 go_wp2_with (at_builtin; go_must (first | (refine wpList_append_V rfl _ _ rfl w4.heap.size _ _ [] us rfl HA.out.1.own rfl HA.out.2.1 (by have h := HU.out.2.2.2.1; show 0 + us.length ≤ 1000000; omega) HA.out.1.below.size ?_; intro v5 w5 ho5 hg5; have hc5 : CopV w4 w5 v5 us := HA.out.1.more ho5 hg5; have HB := Lib.hid (And.intro (hc5.alloc (.cells #[.int .i64 fee, .slice none 0 0] 24)) (lies_src (m := ⟨fee, none, [], 0⟩) (Lies.new w5 _ _))); clear ho5 hg5 hc5) | (refine wpList_append_V rfl _ _ rfl w4.heap.size _ _ us [⟨fee, none, [], 0⟩] rfl HB.out.1.own rfl HB.out.2 HU.out.2.2.2.1 HB.out.1.below.size ?_; intro v6 w6 ho6 hg6; obtain ⟨p6, c6, hp6, hr6⟩ := (HB.out.1.more ho6 hg6).fin HU.out.1 HA.out.2.2.1 HA.out.2.2.2 HU.out.2.2.2.1; have hbw6 := (HB.out.1.more ho6 hg6).below; subst hp6; clear ho6 hg6; have H6 := Lib.hid (And.intro hbw6 (rsums_any w6 p6 uf c6 hr6 H.out.2.2.1 H.out.2.2.2)); clear hbw6 hr6)))
 refine H6.out.2.mono ?_
 rintro e w7 ⟨⟨p7, lu, c7, rfl, hr7, ht7⟩, hb7⟩
 have hb47 := H6.out.1.trans (hb7.mono H6.out.1.size)
 obtain ⟨s', hs'⟩ : ∃ s, s = coinS uf := ⟨_, rfl⟩
 rw [← hs']
 have H7 := Lib.hid (And.intro hb47 (And.intro hr7 (And.intro ht7 hs')))
 clear hb47 hb7 hr7 ht7 hs' H6 HA HB hs0 hz1 hz2 hq1 hq2
 unfold wv
 go_upto_region 3 with fail
 have hb8 : Below w7.heap.size w7 (w7.alloc (.cells #[.int .i64 (hiS s'), .int .u64 (loN s')] 48)) := (Below.refl _ _).alloc (Nat.le_refl _) _
 have hL8 : Lies (w7.alloc (.cells #[.int .i64 (hiS s'), .int .u64 (loN s')] 48)) w7.heap.size #[.int .i64 (hiS s'), .int .u64 (loN s')] 48 := Lies.new _ _ _
 generalize w7.alloc (.cells #[.int .i64 (hiS s'), .int .u64 (loN s')] 48) = w8 at hb8 hL8 ⊢
 obtain ⟨b8, hb8e⟩ : ∃ b, b = w7.heap.size := ⟨_, rfl⟩
 rw [← hb8e] at hL8 ⊢
 have hb48 := H7.out.1.trans (hb8.mono H7.out.1.size)
 have hL48 := H4.out.2.2.below hb48 H4.out.2.2.lt
 have q0 := hL48.cell 0 (v := .int .i64 (hiS s)) rfl
 have q1 := hL48.cell 1 (v := .int .u64 (loN s)) rfl
 have q2 := hL8.cell 0 (v := .int .i64 (hiS s')) rfl
 have q3 := hL8.cell 1 (v := .int .u64 (loN s')) rfl
 have hbw8 := H4.out.1.trans (hb48.mono H4.out.1.size)
 have hrl := H4.out.2.1.below hb48 (Nat.le_refl _)
 have hru := H7.out.2.1.below hb8 (Nat.le_refl _)
 have HX := Lib.hid (And.intro hbw8 (And.intro hrl hru))
 clear hbw8 hL48 hL8 hb48 hb8 hb8e
 have hli : (lt.length : Int) ≤ 9223372036854775807 := by have := hrl.1; unfold maxLen at this; omega
 have hmi : (lu.length : Int) ≤ 9223372036854775807 := by have := hru.1; unfold maxLen at this; omega
 clear hrl hru
 by_cases hss : s = s'
 ·
  have heq : ∀ W, (Op.equalIn 10000 48 (.agg #[.int .i64 (hiS s), .int .u64 (loN s)]) (.agg #[.int .i64 (hiS s'), .int .u64 (loN s')])).run Tryz.prog W = .ok true W := fun W => by
   have := eq_w W s s'
   rw [decide_eq_true hss] at this
   exact this
  have HE := Lib.hid hss
  clear hss
  by_cases hlen : lt.length = lu.length
  ·
   rw [hlen]
   have HL := Lib.hid hlen
   clear hlen
   go_upto_region 5 with fail
   clear q0 q1 q2 q3 heq
   go_wp2_with fail
   go_loopw [13] (fun i W => ∃ k : Nat, k ≤ lu.length ∧ i = .int .i64 k ∧ Below w8.heap.size w8 W ∧ ∀ i, i < k → lt[i]? = lu[i]?) (fun i _ => lu.length - (intOf i).toNat)
   case atStart => exact ⟨0, Nat.zero_le _, rfl, Below.refl _ _, fun i hi => absurd hi (by omega)⟩
   case round =>
    obtain ⟨k, hk, rfl, hb, hall⟩ := hrel
    have hlen := HL.out
    by_cases hlt : k < lu.length
    ·
     have m1 : (k : Int) < (lu.length : Int) := by omega
     have m0 : (0 : Int) ≤ (k : Int) := by omega
     obtain ⟨g, off, rfl, hg, hh⟩ := HX.out.2.1.2.2 (by omega)
     obtain ⟨g', off', rfl, hg', hh'⟩ := HX.out.2.2.2.2 (by omega)
     obtain ⟨a, ha⟩ : ∃ a, a = lt[k] := ⟨_, rfl⟩
     obtain ⟨b, hb'⟩ : ∃ b, b = lu[k] := ⟨_, rfl⟩
     have hka : lt[k]? = some a := by rw [ha, List.getElem?_eq_getElem (by omega)]
     have hkb : lu[k]? = some b := by rw [hb', List.getElem?_eq_getElem hlt]
     have oka := HX.out.2.1.2.1 a (List.mem_of_getElem? hka)
     have okb := HX.out.2.2.2.1 b (List.mem_of_getElem? hkb)
     obtain ⟨va, hva⟩ : ∃ v, v = toC a := ⟨_, rfl⟩
     obtain ⟨vb, hvb⟩ : ∃ v, v = toC b := ⟨_, rfl⟩
     have hvs : va.size = 35 := by rw [hva]; exact toC_size a oka.1
     have hvt : vb.size = 35 := by rw [hvb]; exact toC_size b okb.1
     have heq : ∀ W, (Op.equalIn 10000 75 (.agg va) (.agg vb)).run Tryz.prog W = .ok (decide (a = b)) W := fun W => by rw [hva, hvb]; exact eq_to W a b oka okb
     have HR1 : Hid (∀ W, Below w8.heap.size w8 W → W.rangeAt g (off + k * 35) va.toList ∧ W.rangeAt g' (off' + k * 35) vb.toList) := Lib.hid fun W hW => by
      rw [hva, hvb]
      exact ⟨(hh.below hW hg) k a hka, (hh'.below hW hg') k b hkb⟩
     have HR := Lib.hid (And.intro hb (And.intro hall (And.intro hlt (And.intro hka (And.intro hkb (And.intro hvs hvt))))))
     have HI := Lib.hid (And.intro (show (Tryz.prog.info? 75).map (·.size) = some va.size by rw [hvs]; exact info_total) (show (Tryz.prog.info? 75).map (·.size) = some vb.size by rw [hvt]; exact info_total))
     clear hlen hb hall hlt hk ha hb' hka hkb oka okb hva hvb hvs hvt hh hh' hg hg'
     go_upto_region 8 with fail
     refine wp_region_noPanic (wp_region_held (S := fun V => V.rangeAt g (off + k * 35) va.toList ∧ V.rangeAt g' (off' + k * 35) vb.toList) (by kernel_rfl) ?_)
     change wpAnyH _ _ _ _ _ 9 _ _ (World.drew wr)
     have hcur := HR1.out _ HR.out.1.drew
     have hbd : Below w8.heap.size w8 wr.drew := HR.out.1.drew
     have HBD := Lib.hid hbd
     clear hbd
     by_cases hab : a = b
     ·
      have hd : decide (a = b) = true := by simp [hab]
      have HAB := Lib.hid hab
      clear hab
      refine tk 0 (.slice (some ⟨g, off, none⟩) lu.length c3) 52 rfl rfl hcur ?_
      refine tk 1 (.int .i64 k) 53 rfl rfl hcur ?_
      refine tk 2 (.pointer (some ⟨g, off + k * 35, none⟩)) 54 rfl rfl hcur ?_ (by intro w' hS'; unfold execOp; simp [go_sem, m0, m1])
      refine tk 3 (.agg va) 55 rfl rfl hcur ?_ (by intro w' hS'; exact exec_loadM 75 _ rfl _ _ rfl va hS'.1 Tryz.underlying75 rfl HI.out.1)
      refine tk 4 (.slice (some ⟨g', off', none⟩) lu.length c7) 56 rfl rfl hcur ?_
      refine tk 5 (.int .i64 k) 57 rfl rfl hcur ?_
      refine tk 6 (.pointer (some ⟨g', off' + k * 35, none⟩)) 58 rfl rfl hcur ?_ (by intro w' hS'; unfold execOp; simp [go_sem, m0, m1])
      refine tk 7 (.agg vb) 59 rfl rfl hcur ?_ (by intro w' hS'; exact exec_loadM 75 _ rfl _ _ rfl vb hS'.2 Tryz.underlying75 rfl HI.out.2)
      refine tk 8 (.bool false) 60 rfl rfl hcur ?_ (by intro w' hS'; unfold execOp; simp [go_sem, heq, hd])
      refine wpAnyH_done (by kernel_rfl) ?_ _
      unfold NoPanic
      dsimp only
      clear hcur heq hd
      go_wp2_with fail
      have e1 : (k : Int) + 1 = ((k + 1 : Nat) : Int) := by omega
      rw [e1]
      refine ⟨⟨k + 1, HR.out.2.2.1, rfl, HBD.out, fun i hi => ?_⟩, ?_⟩
      ·
       by_cases e : i = k
       ·
        rw [e, HR.out.2.2.2.1, HR.out.2.2.2.2.1, HAB.out]
       ·
        exact HR.out.2.1 i (by omega)
      ·
       have h := HR.out.2.2.1
       show lu.length - (k + 1) < lu.length - k
       omega
     ·
      have hd : decide (a = b) = false := by simp [hab]
      have HAB := Lib.hid (show lt ≠ lu from fun e => hab (by
       have h1 := HR.out.2.2.2.1
       rw [e, HR.out.2.2.2.2.1] at h1
       exact (Option.some.inj h1).symm))
      clear hab
      refine tk 0 (.slice (some ⟨g, off, none⟩) lu.length c3) 52 rfl rfl hcur ?_
      refine tk 1 (.int .i64 k) 53 rfl rfl hcur ?_
      refine tk 2 (.pointer (some ⟨g, off + k * 35, none⟩)) 54 rfl rfl hcur ?_ (by intro w' hS'; unfold execOp; simp [go_sem, m0, m1])
      refine tk 3 (.agg va) 55 rfl rfl hcur ?_ (by intro w' hS'; exact exec_loadM 75 _ rfl _ _ rfl va hS'.1 Tryz.underlying75 rfl HI.out.1)
      refine tk 4 (.slice (some ⟨g', off', none⟩) lu.length c7) 56 rfl rfl hcur ?_
      refine tk 5 (.int .i64 k) 57 rfl rfl hcur ?_
      refine tk 6 (.pointer (some ⟨g', off' + k * 35, none⟩)) 58 rfl rfl hcur ?_ (by intro w' hS'; unfold execOp; simp [go_sem, m0, m1])
      refine tk 7 (.agg vb) 59 rfl rfl hcur ?_ (by intro w' hS'; exact exec_loadM 75 _ rfl _ _ rfl vb hS'.2 Tryz.underlying75 rfl HI.out.2)
      refine tk 8 (.bool true) 60 rfl rfl hcur ?_ (by intro w' hS'; unfold execOp; simp [go_sem, heq, hd])
      refine wpAnyH_done (by kernel_rfl) ?_ _
      unfold NoPanic
      dsimp only
      clear hcur heq hd
      go_wp2_with fail
      go_ret
      refine ⟨⟨false, rfl, ?_⟩, HX.out.1.trans (HBD.out.mono HX.out.1.size)⟩
      unfold BalOk
      rw [← tot_same H3.out.2.2.1 H7.out.2.2.1]
      exact ⟨fun h => absurd h (by decide), fun h => absurd h.2 HAB.out⟩
    ·
     have e1 : k = lu.length := by omega
     have HF := Lib.hid (And.intro hb (show lt = lu from List.ext_getElem? fun i => by
      by_cases hi : i < k
      ·
       exact hall i hi
      ·
       rw [List.getElem?_eq_none (by omega), List.getElem?_eq_none (by omega)]))
     have m1 : ¬ (k : Int) < (lu.length : Int) := by omega
     clear hb hall e1 hk hlt hlen
     go_wp2_with fail
     go_ret
     refine ⟨⟨true, rfl, ?_⟩, HX.out.1.trans (HF.out.1.mono HX.out.1.size)⟩
     unfold BalOk
     rw [← tot_same H3.out.2.2.1 H7.out.2.2.1, ← H3.out.2.2.2, ← H7.out.2.2.2]
     exact ⟨fun _ => ⟨HE.out, HF.out.2⟩, fun _ => rfl⟩
  ·
   have hne : ¬ (lt.length : Int) = (lu.length : Int) := by omega
   have HN := Lib.hid (show lt ≠ lu from fun e => hlen (by rw [e]))
   clear hlen
   go_wp2_with fail
   go_ret
   refine ⟨⟨false, rfl, ?_⟩, HX.out.1⟩
   unfold BalOk
   rw [← tot_same H3.out.2.2.1 H7.out.2.2.1]
   exact ⟨fun h => absurd h (by decide), fun h => absurd h.2 HN.out⟩
 ·
  have heq : ∀ W, (Op.equalIn 10000 48 (.agg #[.int .i64 (hiS s), .int .u64 (loN s)]) (.agg #[.int .i64 (hiS s'), .int .u64 (loN s')])).run Tryz.prog W = .ok false W := fun W => by
   have := eq_w W s s'
   rw [decide_eq_false hss] at this
   exact this
  have HE := Lib.hid hss
  clear hss
  go_wp2_with fail
  go_ret
  refine ⟨⟨false, rfl, ?_⟩, HX.out.1⟩
  unfold BalOk
  rw [← H3.out.2.2.2, ← H7.out.2.2.2]
  exact ⟨fun h => absurd h (by decide), fun h => absurd h.1 HE.out⟩
end Go.Proofs.YtjngghihciimjaaGreat
namespace Go.Proofs.YtjngghihciimjaaGreat
set_option maxRecDepth 100000
open Go.RowKit Go.Sort Go.Maps
def marksA (k : Nat) : List As := (List.range k).map fun i => markA (UInt8.ofNat i)
theorem marksA_succ (k : Nat) : marksA (k + 1) = marksA k ++ [markA (UInt8.ofNat k)] := by simp [marksA, List.range_succ]
theorem marksA_len (k : Nat) : (marksA k).length = k := by simp [marksA]
theorem marksA_ok (k : Nat) : ∀ a, a ∈ marksA k → AsOk a := fun a ha => by
 obtain ⟨i, _, rfl⟩ := List.mem_map.1 ha
 exact markA_ok _
def SrcA (w : World) (bv : Value) (xs : List As) : Prop := (bv = .slice none 0 0 ∧ xs = []) ∨ ∃ ad c, bv = .slice (some ad) xs.length c ∧ ∀ j u, (cellsF asC xs)[j]? = some u → w.cell? (ad.add j) = some u
theorem row_srcA {w : World} {pa : Option Addr} {l : List As} {c : Nat} (h : Row w pa l) (hc : pa = none → c = 0) : SrcA w (.slice pa l.length c) l := by
  cases pa with
  | none =>
    have hn : l = [] := by
      rcases Nat.eq_zero_or_pos l.length with h0 | h0
      · exact List.eq_nil_of_length_eq_zero h0
      · obtain ⟨g, off, h1, -⟩ := h.2.2 h0
        cases h1
    subst hn
    rw [hc rfl]
    exact .inl ⟨rfl, rfl⟩
  | some ad =>
    refine .inr ⟨ad, c, rfl, fun j u hu => ?_⟩
    have hok : ∀ a, a ∈ l → (asC a).size = 34 := fun a ha => asC_size a (h.2.1 a ha).1
    have h0 : 0 < l.length := by
      have := (List.getElem?_eq_some_iff.1 hu).1
      rw [cellsF_len asC 34 _ hok] at this
      omega
    obtain ⟨g, off, h1, h2, h3⟩ := h.2.2 h0
    cases h1
    exact cellsF_src asC 34 (by decide) hok h3 j u hu
theorem lies_srcA {w : World} {g : Nat} {a : As} {t : TypeId} (h : Lies w g (asC a) t) : SrcA w (.slice (some ⟨g, 0, none⟩) 1 1) [a] := .inr ⟨⟨g, 0, none⟩, 1, rfl, src_one asC h⟩
theorem wpList_append_A {ops : Array Oper} {rest : List Oper} {o : Oper} {a : Act} {w : World} {Q : Exit → Act → World → Prop} (hgd : o.guard = none) (s x : Operand)
  (ho : o.op = .call { callee := .builtin .append, args := #[s, x], argTypes := #[22, 22] })
  (B : Nat) (v bv : Value) (ys xs : List As) (hs : a.eval s = v) (hown : OwnAs w B v ys) (hx : a.eval x = bv) (hsrc : SrcA w bv xs) (hok : ∀ a, a ∈ xs → AsOk a) (hlen : ys.length + xs.length ≤ 1000000) (hB : B ≤ w.heap.size)
  (h : ∀ v' w', OwnAs w' B v' (ys ++ xs) → w.grownBy w' v.ownBlock → wpList Tryz.prog ops Q rest (a.put o.dst v') w') :
  wpList Tryz.prog ops Q (o :: rest) a w := by
 obtain ⟨i0, z0, hi0, hz0, hz1, hz2, hz3⟩ := info_parts info54
 rcases hsrc with ⟨rfl, rfl⟩ | ⟨ad, c, rfl, hsrc⟩
 ·
  refine wpList_append_own_none hgd s x 22 ho B 38 i0 34 Tryz.underlying22 hi0 v ys.length _ hs hown hx ?_
  exact h v w (by rw [List.append_nil]; exact hown) ⟨rfl, rfl, rfl, Nat.le_refl _, fun _ _ _ => rfl⟩
 ·
  refine wpList_append_own_at w hgd s x 22 ho B 38 i0 z0 34 56 Tryz.underlying22 hi0 hz0 hz1 hz2 hz3 (by decide) v ys.length _ hs hown ad xs.length c (cellsF asC xs) hx (cellsF_len asC 34 _ fun a ha => asC_size a (hok a ha).1) hsrc (cellsF_one asC _ fun a _ => asC_one a) (by unfold maxLen; omega) (by omega) hB ?_
  intro v' w' h2 h3 _ _
  exact h v' w' (by unfold OwnAs; rw [List.length_append, cellsF_app]; exact h2) h3
structure CopA (w W : World) (v : Value) (l : List As) : Prop where
 below : Below w.heap.size w W
 own : OwnAs W w.heap.size v l
theorem CopA.more {w W U : World} {v v' : Value} {l xs : List As} (h : CopA w W v l) (ho : OwnAs U w.heap.size v' (l ++ xs)) (hg : W.grownBy U v.ownBlock) : CopA w U v' (l ++ xs) :=
 ⟨h.below.grown hg h.below.size (fun j hj => (h.own.lt j hj).1), ho⟩
theorem CopA.step {w W U : World} {v : Value} {l : List As} (h : CopA w W v l) (hb : Below W.heap.size W U) : CopA w U v l :=
 ⟨h.below.trans (hb.mono h.below.size), ownsRow_below h.own hb⟩
theorem made_size (v : Array Value) (n : Nat) : (madeCells v n).size = n := by
 unfold madeCells; simp
theorem mk_assets (n : Nat) (hn : n ≤ 400000) : ∃ z : Value, ∀ w : World, (Instr.makeSlice 22 (.int .i64 0) (.int .i64 n)).run Tryz.prog w = .ok (.slice (some ⟨w.heap.size, 0, none⟩) 0 n) (w.alloc (.cells (madeCells z.cells (n * 34)) 38)) := by
 obtain ⟨i0, z0, hi0, hz0, hz1, hz2, hz3⟩ := info_parts info54
 refine ⟨z0, fun w => ?_⟩
 have := run_makeSlice (P := Tryz.prog) (w := w) 22 38 i0 z0 Tryz.underlying22 hi0 hz0 .i64 .i64 0 n (by omega) (by omega) (by rw [hz1]; simp; omega) (by rw [hz2]; omega) (by omega)
 rw [hz1] at this
 simp only [Int.toNat_natCast] at this
 exact this
def LentA (w : World) (B : Nat) (l : List As) (v : Value) : Prop := ∃ g c, v = .slice (some ⟨g, 0, none⟩) l.length c ∧ l.length + 12 ≤ c ∧ OwnAs w B (.slice (some ⟨g, 0, none⟩) (l.length + 12) c) (l ++ marksA 12)
attribute [-go_sem] Instr.build
attribute [-go_sem] Instr.buildSlice
set_option maxHeartbeats 4000000 in
theorem lentA_any (w : World) (pa : Option Addr) (l : List As) (c : Nat) (h : Row w pa l) (h0 : pa = none → c = 0) (hl : l.length ≤ 100000) :
  Calls Tryz.prog 23 #[.slice pa l.length c] w fun e w' => (∃ v, e = .returned v ∧ LentA w' w.heap.size l v) ∧ Below w.heap.size w w' := by
 have hsrc : ∀ V, Below w.heap.size w V → SrcA V (.slice pa l.length c) l := fun V hV => row_srcA (h.below hV (Nat.le_refl _)) h0
 have hok := h.2.1
 obtain ⟨n, hn⟩ : ∃ n, n = l.length := ⟨_, rfl⟩
 rw [← hn] at hl hsrc ⊢
 obtain ⟨z, hz⟩ := mk_assets (n + 12) (by omega)
 obtain ⟨mc, hmc⟩ : ∃ mc, mc = madeCells z.cells ((n + 12) * 34) := ⟨_, rfl⟩
 rw [← hmc] at hz
 have hms : mc.size = (n + 12) * 34 := by rw [hmc, made_size]
 have hmk : ∀ V, (Instr.makeSlice 22 (.int .i64 0) (.int .i64 ((n : Int) + 12))).run Tryz.prog V = .ok (.slice (some ⟨V.heap.size, 0, none⟩) 0 (n + 12)) (V.alloc (.cells mc 38)) := fun V => by
  have := hz V
  rwa [show (((n + 12 : Nat)) : Int) = (n : Int) + 12 by omega] at this
 have q1 : (n : Int) ≤ 100000 := by omega
 have q2 : (0 : Int) ≤ (n : Int) := by omega
 have hst : CopA w (w.alloc (.cells mc 38)) (.slice (some ⟨w.heap.size, 0, none⟩) 0 (n + 12)) [] :=
  ⟨(Below.refl _ _).alloc (Nat.le_refl _) _, rfl, .inr ⟨w.heap.size, n + 12, mc, rfl, Nat.le_refl _, Lies.new w mc 38, Nat.zero_le _, by unfold maxLen; omega, by rw [hms], rfl⟩⟩
 have hs0 := hsrc _ hst.below
 have H := Lib.hid (And.intro hn (And.intro hok (And.intro hst hs0)))
 clear h h0 hn hsrc hok hst hs0 hz hmc hms
 go_enter Tryz.func23, Tryz.ntmps23
 go_upto_region 4 with (at_builtin; go_must (refine wpList_append_A rfl _ _ rfl w.heap.size _ _ [] l rfl H.out.2.2.1.own rfl H.out.2.2.2 H.out.2.1 (by have := H.out.1; simp; omega) H.out.2.2.1.below.size ?_; intro v2 w2 ho2 hg2; have H2 := Lib.hid (H.out.2.2.1.more ho2 hg2); clear ho2 hg2))
 clear hmk
 go_loopw [3, 4] (fun v i W => ∃ k : Nat, k ≤ 12 ∧ i = .int .i64 k ∧ CopA w W v (l ++ marksA k)) (fun _ i _ => (12 - intOf i).toNat)
 case atStart => exact ⟨0, Nat.zero_le _, rfl, by simpa [marksA] using H2.out⟩
 case round =>
  obtain ⟨k, hk, rfl, hcop⟩ := hrel
  by_cases hlt : k < 12
  ·
   have q3 : (k : Int) < 12 := by omega
   have q4 : (0 : Int) ≤ (k : Int) := by omega
   obtain ⟨b, hb⟩ : ∃ b, b = UInt8.ofNat k := ⟨_, rfl⟩
   have hbn : ((b.toNat : Nat) : Int) = (k : Int) := by
    rw [hb]
    simp
    omega
   have hm := markAsset_any wr b
   rw [hbn] at hm
   obtain ⟨av, hav⟩ : ∃ v, v = asC (markA b) := ⟨_, rfl⟩
   rw [← hav] at hm
   have has : av.size = 34 := by rw [hav]; exact asC_size _ rfl
   have hsl : ∀ W : World, (Instr.buildSlice 22 1 #[(0, .agg av)]).run Tryz.prog W = .ok (.slice (some ⟨W.heap.size, 0, none⟩) 1 1) (W.alloc (.cells av 38)) := fun W => run_slice1 W 22 38 34 56 av Tryz.underlying22 info54 (by decide) (by decide) has
   have HR := Lib.hid (And.intro hcop (And.intro hm (And.intro hb (And.intro hav (And.intro hlt has)))))
   clear hcop hm hb hav hlt has hbn hk
   go_wp2_with fail
   refine HR.out.2.1.mono ?_
   rintro e w4 ⟨rfl, hb4⟩
   have hc5 := (HR.out.1.step hb4).step ((Below.refl _ _).alloc (Nat.le_refl _) (.cells av 38))
   have hs5 : SrcA (w4.alloc (.cells av 38)) (.slice (some ⟨w4.heap.size, 0, none⟩) 1 1) [markA b] := lies_srcA (t := 38) (by rw [← HR.out.2.2.2.1]; exact Lies.new w4 av 38)
   have HX := Lib.hid (And.intro hc5 hs5)
   clear hc5 hs5 hb4
   go_wp2_with (at_builtin; go_must (refine wpList_append_A rfl _ _ rfl w.heap.size _ _ (l ++ marksA k) [markA b] rfl HX.out.1.own rfl HX.out.2 (fun a ha => by rw [List.mem_singleton] at ha; rw [ha]; exact markA_ok b) (by have h1 := H.out.1; rw [List.length_append, marksA_len]; simp; omega) HX.out.1.below.size ?_; intro v6 w6 ho6 hg6; have H6 := Lib.hid (HX.out.1.more ho6 hg6); clear ho6 hg6))
   have e1 : (k : Int) + 1 = ((k + 1 : Nat) : Int) := by omega
   rw [e1]
   refine ⟨⟨k + 1, HR.out.2.2.2.2.1, rfl, by rw [marksA_succ, ← List.append_assoc, ← HR.out.2.2.1]; exact H6.out⟩, ?_⟩
   have h := HR.out.2.2.2.2.1
   simp [intOf]
   omega
  ·
   have hk12 : k = 12 := by omega
   subst hk12
   have q3 : ¬ ((12 : Nat) : Int) < 12 := by omega
   have hlen : (l ++ marksA 12).length = n + 12 := by rw [List.length_append, marksA_len, ← H.out.1]
   rcases own_at asC 34 (fun a ha => by
    rcases List.mem_append.1 ha with ha | ha
    ·
     exact asC_size a (H.out.2.1 a ha).1
    ·
     exact asC_size a (marksA_ok 12 a ha).1) hcop.own with ⟨_, h2⟩ | ⟨g, cap, h1, h2, h3, h4, _, _⟩
   ·
    rw [h2] at hlen
    simp at hlen
   ·
    rw [hlen] at h1 h4
    subst h1
    have q5 : (n : Int) ≤ (cap : Int) := by omega
    have hroom : n + 12 ≤ cap := h4
    have HF := Lib.hid (And.intro hcop hroom)
    clear hcop hroom h2 h3 h4 hlen hk hlt
    go_wp2_with fail
    go_ret
    exact ⟨⟨_, rfl, g, cap, by rw [H.out.1]; rfl, by rw [← H.out.1]; exact HF.out.2, by rw [← H.out.1]; exact HF.out.1.own⟩, HF.out.1.below⟩
end Go.Proofs.YtjngghihciimjaaGreat
namespace Go.Proofs.YtjngghihciimjaaGreat
set_option maxRecDepth 100000
open Go.RowKit Go.Sort Go.Maps
attribute [-go_sem] Instr.build
attribute [-go_sem] Instr.buildSlice
def mkN (k i : Nat) : Int := 1000003 * ((k : Int) + 7) + (i : Int)
theorem mark_gen (w : World) (k i : Nat) (hk : k ≤ 100000) (hi : i ≤ 1000000) : Calls Tryz.prog 120 #[.int .i64 k, .int .i64 i] w fun e w' => e = .returned (.int .i64 (mkN k i)) ∧ w = w' := by
 unfold mkN
 obtain ⟨x, hx⟩ : ∃ x : Int, x = (k : Int) := ⟨_, rfl⟩
 obtain ⟨y, hy⟩ : ∃ y : Int, y = (i : Int) := ⟨_, rfl⟩
 rw [← hx, ← hy]
 have q1 : x ≤ 100000 := by omega
 have q2 : (0 : Int) ≤ x := by omega
 have q3 : y ≤ 1000000 := by omega
 have q4 : (0 : Int) ≤ y := by omega
 clear hx hy hk hi
 have e1 : IntKind.i64.wrap (x + 7) = x + 7 := IntWalk.i64_in _ (by omega)
 have e2 : IntKind.i64.wrap (1000003 * (x + 7)) = 1000003 * (x + 7) := IntWalk.i64_in _ (by omega)
 have e3 : IntKind.i64.wrap (1000003 * (x + 7) + y) = 1000003 * (x + 7) + y := IntWalk.i64_in _ (by omega)
 go_enter Tryz.func120, Tryz.ntmps120
 go_wp2_with fail
 go_ret
 exact ⟨rfl, rfl⟩
def u8n (n : Nat) : UInt8 := UInt8.ofNat n
def mkT (k i : Nat) : List UInt8 := [35, u8n k, u8n (k / 256), u8n (k / 65536), 47, u8n i, u8n (i / 256), u8n (i / 65536)]
theorem u8_wrap (n : Nat) : IntKind.u8.wrap (n : Int) = ((u8n n).toNat : Int) := by
 rw [IntKind.wrap_u8]
 unfold u8n
 simp
theorem slice_mkT (w : World) (k i : Nat) (y0 y1 y2 y3 y4 y5 : Int) (h0 : y0 = (u8n k).toNat) (h1 : y1 = (u8n (k / 256)).toNat) (h2 : y2 = (u8n (k / 65536)).toNat) (h3 : y3 = (u8n i).toNat) (h4 : y4 = (u8n (i / 256)).toNat) (h5 : y5 = (u8n (i / 65536)).toNat) :
  (Instr.buildSlice 182 8 #[(0, .int .u8 35), (1, .int .u8 y0), (2, .int .u8 y1), (3, .int .u8 y2), (4, .int .u8 47), (5, .int .u8 y3), (6, .int .u8 y4), (7, .int .u8 y5)]).run Tryz.prog w = .ok (.slice (some ⟨w.heap.size, 0, none⟩) 8 8) (w.alloc (.cells (B8 (mkT k i)) 5)) := by
 obtain ⟨i0, z, g1, g2, g3, g4, g5⟩ := info_parts info_u8
 refine run_buildSlice w 182 5 8 _ _ i0 z Tryz.underlying182 g1 g2 (by rw [g3]; omega) (by rw [g3]; omega) ?_
 rw [g3]
 have h := Great.fill_whole (s := 1) (by decide) [.int .u8 35, .int .u8 y0, .int .u8 y1, .int .u8 y2, .int .u8 47, .int .u8 y3, .int .u8 y4, .int .u8 y5] ((Array.range (8 * 1)).map (z.cells[· % z.cells.size]!)) (by simp [Value.cells]) (by simp)
 rw [h0, h1, h2, h3, h4, h5] at h ⊢
 simpa [Value.cells, B8, mkT] using h
set_option maxHeartbeats 1000000 in
theorem markText_gen (w : World) (k i : Nat) (hk : k ≤ 100000) (hi : i ≤ 1000000) : Calls Tryz.prog 121 #[.int .i64 k, .int .i64 i] w fun e w' => e = .returned (.string (txt (mkT k i))) ∧ Below w.heap.size w w' := by
 obtain ⟨x, hx⟩ : ∃ x : Int, x = (k : Int) := ⟨_, rfl⟩
 obtain ⟨y, hy⟩ : ∃ y : Int, y = (i : Int) := ⟨_, rfl⟩
 obtain ⟨y0, h0⟩ : ∃ x : Int, x = (u8n k).toNat := ⟨_, rfl⟩
 obtain ⟨y1, h1⟩ : ∃ x : Int, x = (u8n (k / 256)).toNat := ⟨_, rfl⟩
 obtain ⟨y2, h2⟩ : ∃ x : Int, x = (u8n (k / 65536)).toNat := ⟨_, rfl⟩
 obtain ⟨y3, h3⟩ : ∃ x : Int, x = (u8n i).toNat := ⟨_, rfl⟩
 obtain ⟨y4, h4⟩ : ∃ x : Int, x = (u8n (i / 256)).toNat := ⟨_, rfl⟩
 obtain ⟨y5, h5⟩ : ∃ x : Int, x = (u8n (i / 65536)).toNat := ⟨_, rfl⟩
 have e0 : IntKind.u8.wrap x = y0 := by rw [hx, h0, u8_wrap]
 have e1 : IntKind.u8.wrap (x / 256) = y1 := by rw [hx, h1, ← u8_wrap]; congr 1
 have e2 : IntKind.u8.wrap (x / 65536) = y2 := by rw [hx, h2, ← u8_wrap]; congr 1
 have e3 : IntKind.u8.wrap y = y3 := by rw [hy, h3, u8_wrap]
 have e4 : IntKind.u8.wrap (y / 256) = y4 := by rw [hy, h4, ← u8_wrap]; congr 1
 have e5 : IntKind.u8.wrap (y / 65536) = y5 := by rw [hy, h5, ← u8_wrap]; congr 1
 have hsl := fun V => slice_mkT V k i y0 y1 y2 y3 y4 y5 h0 h1 h2 h3 h4 h5
 have q1 : x ≤ 100000 := by omega
 have q2 : (0 : Int) ≤ x := by omega
 have q3 : y ≤ 1000000 := by omega
 have q4 : (0 : Int) ≤ y := by omega
 rw [← hx, ← hy]
 obtain ⟨tv, htv⟩ : ∃ t, t = txt (mkT k i) := ⟨_, rfl⟩
 obtain ⟨cv, hcv⟩ : ∃ t, t = B8 (mkT k i) := ⟨_, rfl⟩
 have hcn : (convert 182 9 (.slice (some ⟨w.heap.size, 0, none⟩) 8 8)).run Tryz.prog (w.alloc (.cells cv 5)) = .ok (.string tv) (w.alloc (.cells cv 5)) := by
  rw [hcv, htv]
  exact conv_src (l := mkT k i) (c := 8) (b8_src (Lies.new w _ 5))
 rw [← hcv] at hsl
 rw [← htv]
 clear hx hy h0 h1 h2 h3 h4 h5 hcv htv hk hi
 go_enter Tryz.func121, Tryz.ntmps121
 go_wp2_with fail
 go_ret
 exact ⟨rfl, (Below.refl _ _).alloc (Nat.le_refl _) _⟩
def mkA (k i : Nat) : As := ⟨(List.replicate 32 0, mkT k i), 0⟩
theorem mkA_ok (k i : Nat) : AsOk (mkA k i) := ⟨rfl, by show 8 ≤ maxLen; unfold maxLen; omega, show (-9223372036854775808 : Int) ≤ 0 by omega, show (0 : Int) < 9223372036854775808 by omega⟩
set_option maxHeartbeats 1000000 in
theorem markAsset_gen (w : World) (k i : Nat) (hk : k ≤ 100000) (hi : i ≤ 1000000) : Calls Tryz.prog 65 #[.int .i64 k, .int .i64 i] w fun e w' => e = .returned (.agg (asC (mkA k i))) ∧ Below w.heap.size w w' := by
 have hm := fun V => markText_gen V k i hk hi
 obtain ⟨x, hx⟩ : ∃ x : Int, x = (k : Int) := ⟨_, rfl⟩
 obtain ⟨y, hy⟩ : ∃ y : Int, y = (i : Int) := ⟨_, rfl⟩
 obtain ⟨tv, htv⟩ : ∃ t, t = txt (mkT k i) := ⟨_, rfl⟩
 obtain ⟨av, hav⟩ : ∃ t, t = asC (mkA k i) := ⟨_, rfl⟩
 have hbl : ∀ W, (Instr.build 38 #[(1, .string tv)]).run Tryz.prog W = .ok (.agg av) W := fun W => by
  rw [htv, hav]
  exact run_build W 38 _ _ (built_mark _)
 have hsz : av.size = 34 := by rw [hav]; exact asC_size _ rfl
 have h1 : av.all (·.oneCell') = true := by rw [hav]; exact asC_one _
 rw [← hx, ← hy, ← htv] at hm
 rw [← hx, ← hy, ← hav]
 have HM := Lib.hid (And.intro hm (And.intro hsz h1))
 clear hm hx hy htv hav hsz h1 hk hi
 go_enter Tryz.func65, Tryz.ntmps65
 go_upto_region 1 with fail
 have hQ : Lies (w.alloc (.cells z34 38)) w.heap.size z34 38 := Lies.new w z34 38
 have hb : Below w.heap.size w (w.alloc (.cells z34 38)) := (Below.refl _ _).alloc (Nat.le_refl _) _
 change Code.wp _ _ _ _ (w.alloc (.cells z34 38))
 generalize w.alloc (.cells z34 38) = W0 at hQ hb ⊢
 have H := Lib.hid (And.intro hQ hb)
 clear hQ hb
 go_wp2_with fail
 refine (HM.out.1 _).mono ?_
 rintro e w2 ⟨rfl, hb2⟩
 have H2 := Lib.hid (And.intro (H.out.1.below hb2 H.out.1.lt) (H.out.2.trans (hb2.mono H.out.2.size)))
 clear hb2
 go_wp2_with (refine wpList_store_row rfl 38 _ _ rfl w.heap.size av rfl rfl 38 z34 H2.out.1 (by rw [HM.out.2.1]; exact info_asset) (by rw [HM.out.2.1]; kernel_rfl) HM.out.2.2 ?_)
 exact bodyPost_ret (v := .agg av) (results_cell_row (p := 4) (ty := 38) (by kernel_rfl) _ _ w.heap.size 38 av (0, 0) _ rfl (H2.out.1.setRow _) Tryz.underlying38 rfl (by rw [HM.out.2.1]; exact info_asset)) rfl ⟨rfl, below_setRow H2.out.2 _ _ (Nat.le_refl _)⟩
def mkVc (k i : Nat) : Array Value := #[.int .i64 (mkN k i), .slice none 0 0]
set_option maxHeartbeats 1000000 in
theorem markValue_gen (w : World) (k i : Nat) (hk : k ≤ 100000) (hi : i ≤ 1000000) : Calls Tryz.prog 64 #[.int .i64 k, .int .i64 i] w fun e w' => e = .returned (.agg (mkVc k i)) ∧ Below w.heap.size w w' := by
 unfold mkVc
 have hm := fun V => mark_gen V k i hk hi
 obtain ⟨x, hx⟩ : ∃ x : Int, x = (k : Int) := ⟨_, rfl⟩
 obtain ⟨y, hy⟩ : ∃ y : Int, y = (i : Int) := ⟨_, rfl⟩
 obtain ⟨c, hc⟩ : ∃ c : Int, c = mkN k i := ⟨_, rfl⟩
 rw [← hc, ← hx, ← hy] at hm
 rw [← hc, ← hx, ← hy]
 have hbl : ∀ W, (Instr.build 24 #[(0, .int .i64 c)]).run Tryz.prog W = .ok (.agg #[.int .i64 c, .slice none 0 0]) W := fun W => run_build W 24 _ _ (by kernel_rfl)
 have HM := Lib.hid hm
 clear hm hc hx hy hk hi
 have hQ : Lies (w.alloc (.cells #[.int .i64 0, .slice none 0 0] 24)) w.heap.size #[.int .i64 0, .slice none 0 0] 24 := Lies.new _ _ _
 have hb : Below w.heap.size w (w.alloc (.cells #[.int .i64 0, .slice none 0 0] 24)) := (Below.refl _ _).alloc (Nat.le_refl _) _
 go_enter Tryz.func64, Tryz.ntmps64
 go_upto_region 1 with fail
 generalize w.alloc (.cells #[.int .i64 0, .slice none 0 0] 24) = W0 at hQ hb ⊢
 have H := Lib.hid (And.intro hQ hb)
 clear hQ hb
 go_wp2_with fail
 refine (HM.out _).mono ?_
 rintro e w' ⟨rfl, rfl⟩
 go_wp2_with (refine wpList_store_row rfl 24 _ _ rfl w.heap.size #[.int .i64 c, .slice none 0 0] rfl rfl 24 #[.int .i64 0, .slice none 0 0] H.out.1 info_value rfl (by simp [Value.oneCell']) ?_)
 exact bodyPost_ret (v := .agg #[.int .i64 c, .slice none 0 0]) (results_cell_row (p := 4) (ty := 24) (by kernel_rfl) _ _ w.heap.size 24 #[.int .i64 c, .slice none 0 0] (0, 0) _ rfl (H.out.1.setRow _) Tryz.underlying24 rfl info_value) rfl ⟨rfl, below_setRow H.out.2 _ _ (Nat.le_refl _)⟩
end Go.Proofs.YtjngghihciimjaaGreat
namespace Go.Proofs.YtjngghihciimjaaGreat
set_option maxRecDepth 100000
open Go.RowKit Go.Sort Go.Maps
theorem duo_row (w : World) (a b : Va) (ha : VaOk w a) (hb : VaOk w b) :
  RowV (w.alloc (.cells #[.int .i64 a.coin, .slice a.pa a.l.length a.c, .int .i64 b.coin, .slice b.pa b.l.length b.c] 24)) (some ⟨w.heap.size, 0, none⟩) [a, b] :=
 rowV_of (Lies.new w _ 24) rfl (fun v hv => by
  have hb1 := (Below.refl w.heap.size w).alloc (Nat.le_refl _) (.cells #[.int .i64 a.coin, .slice a.pa a.l.length a.c, .int .i64 b.coin, .slice b.pa b.l.length b.c] 24)
  rcases List.mem_cons.1 hv with rfl | hv
  ·
   exact ha.below hb1 (Nat.le_refl _)
  ·
   rw [List.mem_singleton] at hv
   rw [hv]
   exact hb.below hb1 (Nat.le_refl _)) (show 2 ≤ maxLen by decide)
theorem same_m (w : World) (a b : Va) (ha : Row w a.pa a.l) (hb : Row w b.pa b.l) :
  Calls Tryz.prog 12 #[.agg #[.int .i64 a.coin, .slice a.pa a.l.length a.c], .agg #[.int .i64 b.coin, .slice b.pa b.l.length b.c]] w fun e w' => e = .returned (.bool (sameB a.coin b.coin a.l b.l)) ∧ Below w.heap.size w w' := sameV_any w a.coin b.coin a.pa b.pa a.l b.l a.c b.c ha hb
theorem sameB_yes (x : Int) (l : List As) : sameB x x l l = true := by simp [sameB]
theorem AddM.ok_of {vs us : List Va} (ht : ∀ coin l, AddZ vs coin l ↔ AddZ us coin l) {ok is : Bool} {x y : Int} {l m : List As} (h : AddM vs ok x l) (k : AddM us is y m) : is = ok ∧ y = x ∧ m = l := by
 rcases h with ⟨rfl, h2⟩ | ⟨rfl, rfl, rfl, h4⟩
 ·
  obtain ⟨e1, e2, e3⟩ := k.yes ((ht _ _).1 h2)
  exact ⟨e1, e2, e3⟩
 ·
  exact k.no fun coin l hz => h4 coin l ((ht _ _).2 hz)
theorem AddM.vaOk {w : World} {vs : List Va} {ok : Bool} {S : Va} (h : AddM vs ok S.coin S.l) (hr : Row w S.pa S.l) : VaOk w S := by
 rcases h with ⟨_, _, h2, h3, _⟩ | ⟨_, h2, _, _⟩
 ·
  have := fits_nat h2
  exact ⟨by omega, by omega, hr⟩
 ·
  exact ⟨by omega, by omega, hr⟩
end Go.Proofs.YtjngghihciimjaaGreat
namespace Go.Proofs.YtjngghihciimjaaGreat
set_option maxRecDepth 100000
open Go.RowKit Go.Sort Go.Maps
theorem wpOp_storeE {P : Program} {ops : Array Oper} {Q : Exit → Act → World → Prop} {i : Nat} {o : Oper} {a : Act} {w : World} {K : Act → World → Prop} (hi : ops[i]? = some o) (hg : o.guard = none) (hd : o.dst = none) (t : TypeId) (x y : Operand) (ho : o.op = .store t x y)
  (b off : Nat) (X : Array Value) (hx : a.eval x = .pointer (some ⟨b, off, none⟩)) (hy : a.eval y = .agg X) (ht : w.there b off X.size) (hs : (P.info? t).map (·.size) = some X.size) (h1 : X.all (·.oneCell') = true) (h : K a (w.setCells b off X.toList)) : wpOp P ops Q i K a w := by
 refine wpOp_wp hi hg (wp_store_mid t x y ho b off X hx hy ht hs h1 ?_)
 rw [hd]
 exact h
theorem wpQuiet_loadE {P : Program} {w : World} {ops : Array Oper} {rest : List Oper} {o : Oper} {a : Act} {Q : Act → Prop} (hw : Region.wanted o (yielded ops a.tmps) = true) (t : TypeId) (x : Operand) (ho : o.op = .load t x) (b off : Nat) (hx : a.eval x = .pointer (some ⟨b, off, none⟩))
  (X : Array Value) (d : TypeDesc) (hl : w.rangeAt b off X.toList) (hb : b < w.heap.size) (hu : P.underlying t = some d) (hd : d.isRow = true) (hi : (P.info? t).map (·.size) = some X.size)
  (h : wpQuiet P ops (fun w' => ∃ p : Regrown, w' = grow (redrawn w p.d) p.os) Q rest (a.put o.dst (.agg X))) : wpQuiet P ops (fun w' => ∃ p : Regrown, w' = grow (redrawn w p.d) p.os) Q (o :: rest) a := by
 unfold wpQuiet
 rw [if_pos hw]
 refine ⟨.agg X, fun w' ⟨p, e⟩ => ?_, h⟩
 have hr : (grow (redrawn w p.d) p.os).rangeAt b off X.toList := fun j v hv => (cell_block ((below_regrown w p.d p.os).block b hb) _).trans (hl j v hv)
 rw [← e] at hr
 unfold Oper.quietAt execOp
 have hrun := run_loadVar_mid (P := P) w' b off t X.toList d hr hu hd (by rw [Array.length_toList]; exact hi)
 simp only [ho, hx, Instr.loadAt, Instr.sureAddr, Sem.run_bind, Sem.run_pure, Result.andThen_ok, hrun]
 exact ⟨rfl, by simp⟩
theorem list_one {X : Array Value} (h : X.all (·.oneCell') = true) : ∀ u ∈ X.toList, u.oneCell' = true := by
 intro u hu
 rw [Array.all_eq_true_iff_forall_mem] at h
 exact h u (Array.mem_toList_iff.1 hu)
theorem made_one (x : Value) (hx : x.cells = #[x]) (n i : Nat) (hi : i < n) : (madeCells x.cells n)[i]? = some x := by
 unfold madeCells
 rw [hx]
 simp [hi, Nat.mod_one]
theorem make_rows_of (t s : TypeId) (ht : Tryz.prog.underlying t = some (.slice s)) (hs : (Tryz.prog.info? s).map (fun i => (i.zero, i.size, i.bytes)) = some (some (.slice none 0 0), 1, 24)) (n : Nat) (w : World) (hn : n ≤ 1000) :
    ∃ cs : Array Value, cs.size = n ∧ (∀ i, i < n → cs[i]? = some (.slice none 0 0)) ∧ (Instr.makeSlice t (.int .i64 n) (.int .i64 n)).run Tryz.prog w = .ok (.slice (some ⟨w.heap.size, 0, none⟩) n n) (w.alloc (.cells cs s)) := by
  cases hi : Tryz.prog.info? s with
  | none => rw [hi] at hs; simp at hs
  | some i =>
    rw [hi] at hs
    simp only [Option.map_some, Option.some.injEq, Prod.mk.injEq] at hs
    obtain ⟨h1, h2, h3⟩ := hs
    have := run_makeSlice (P := Tryz.prog) (w := w) t s i (.slice none 0 0) ht hi h1 .i64 .i64 n n (by omega) (by omega) (by rw [h2]; simp; omega) (by rw [h3]; omega) (by omega)
    rw [h2] at this
    simp only [Int.toNat_natCast, Nat.mul_one] at this
    exact ⟨_, size_madeCells _ _, fun j hj => made_one (.slice none 0 0) rfl n j hj, this⟩
theorem make64_of (t s : TypeId) (ht : Tryz.prog.underlying t = some (.slice s)) (sz b : Nat) (hs : (Tryz.prog.info? s).map (fun i => (i.zero.map (·.cells.size), i.size, i.bytes)) = some (some sz, sz, b)) (h1 : sz ≤ 100) (h2 : b ≤ 1000) (w : World) :
  ∃ cs : Array Value, cs.size = 64 * sz ∧ (Instr.makeSlice t (.int .i64 64) (.int .i64 64)).run Tryz.prog w = .ok (.slice (some ⟨w.heap.size, 0, none⟩) 64 64) (w.alloc (.cells cs s)) := by
 obtain ⟨i0, z, hi0, hz0, hz1, hz2, _⟩ := info_parts hs
 have := run_makeSlice (P := Tryz.prog) (w := w) t s i0 z ht hi0 hz0 .i64 .i64 64 64 (by omega) (by omega) (by rw [hz1]; simp; omega) (by rw [hz2]; omega) (by omega)
 exact ⟨_, by rw [size_madeCells, hz1]; rfl, this⟩
def mkAc (k i : Nat) : Array Value := asC (mkA k i)
theorem mkAc_size (k i : Nat) : (mkAc k i).size = 34 := asC_size _ rfl
theorem mkAc_one (k i : Nat) : (mkAc k i).all (·.oneCell') = true := asC_one _
theorem mkAc_any (w : World) (k i : Nat) (hk : k ≤ 100000) (hi : i ≤ 1000000) : Calls Tryz.prog 65 #[.int .i64 k, .int .i64 i] w fun e w' => e = .returned (.agg (mkAc k i)) ∧ Below w.heap.size w w' := markAsset_gen w k i hk hi
theorem mkAc_eq (k i : Nat) : ∀ W, (Op.equalIn 10000 38 (.agg (mkAc k i)) (.agg (mkAc k i))).run Tryz.prog W = .ok true W := fun W => by
 have := eq_as W (mkA k i) (mkA k i) (mkA_ok k i) (mkA_ok k i)
 rw [decide_eq_true rfl] at this
 exact this
theorem infoSA : (Tryz.prog.info? 38).map (·.size) = some 34 := info_asset
theorem make_rowsA (n : Nat) (w : World) (hn : n ≤ 1000) : ∃ cs : Array Value, cs.size = n ∧ (∀ i, i < n → cs[i]? = some (.slice none 0 0)) ∧ (Instr.makeSlice 98 (.int .i64 n) (.int .i64 n)).run Tryz.prog w = .ok (.slice (some ⟨w.heap.size, 0, none⟩) n n) (w.alloc (.cells cs 22)) :=
 make_rows_of _ _ Tryz.underlying98 (by kernel_rfl) n w hn
theorem make64A (w : World) : ∃ cs : Array Value, cs.size = 64 * 34 ∧ (Instr.makeSlice 22 (.int .i64 64) (.int .i64 64)).run Tryz.prog w = .ok (.slice (some ⟨w.heap.size, 0, none⟩) 64 64) (w.alloc (.cells cs 38)) :=
 make64_of _ _ Tryz.underlying22 34 56 info54 (by decide) (by decide) w
theorem mkVc_size (k i : Nat) : (mkVc k i).size = 2 := rfl
theorem mkVc_one (k i : Nat) : (mkVc k i).all (·.oneCell') = true := by simp [mkVc, Value.oneCell']
theorem infoSV : (Tryz.prog.info? 24).map (·.size) = some 2 := info_value
theorem infoV : (Tryz.prog.info? 24).map (fun i => (i.zero.map (·.cells.size), i.size, i.bytes)) = some (some 2, 2, 32) := by kernel_rfl
theorem make_rowsV (n : Nat) (w : World) (hn : n ≤ 1000) : ∃ cs : Array Value, cs.size = n ∧ (∀ i, i < n → cs[i]? = some (.slice none 0 0)) ∧ (Instr.makeSlice 40 (.int .i64 n) (.int .i64 n)).run Tryz.prog w = .ok (.slice (some ⟨w.heap.size, 0, none⟩) n n) (w.alloc (.cells cs 28)) :=
 make_rows_of _ _ Tryz.underlying40 (by kernel_rfl) n w hn
theorem make64V (w : World) : ∃ cs : Array Value, cs.size = 64 * 2 ∧ (Instr.makeSlice 28 (.int .i64 64) (.int .i64 64)).run Tryz.prog w = .ok (.slice (some ⟨w.heap.size, 0, none⟩) 64 64) (w.alloc (.cells cs 24)) :=
 make64_of _ _ Tryz.underlying28 2 32 infoV (by decide) (by decide) w
theorem sameVc_any (k i : Nat) : ∀ W, Calls Tryz.prog 12 #[.agg (mkVc k i), .agg (mkVc k i)] W fun e w' => e = .returned (.bool true) ∧ Below W.heap.size W w' := fun W =>
 (same_m W ⟨mkN k i, none, [], 0⟩ ⟨mkN k i, none, [], 0⟩ (row_nil W) (row_nil W)).mono fun e w' hh => ⟨by rw [hh.1, sameB_yes], hh.2⟩
end Go.Proofs.YtjngghihciimjaaGreat
namespace Go.Proofs.YtjngghihciimjaaGreat
set_option maxRecDepth 100000
open Go.RowKit Go.Sort Go.Maps
attribute [-go_sem] Instr.build
attribute [-go_sem] Instr.buildSlice
def mkTo (k i : Nat) : To := ⟨(List.replicate 32 0, mkT k i), 0⟩
theorem mkTo_ok (k i : Nat) : ToOk (mkTo k i) := ⟨rfl, by show 8 ≤ maxLen; unfold maxLen; omega⟩
def mkTc (k i : Nat) : Array Value := toC (mkTo k i)
theorem mkTc_size (k i : Nat) : (mkTc k i).size = 35 := toC_size _ rfl
theorem mkTc_one (k i : Nat) : (mkTc k i).all (·.oneCell') = true := toC_one _
theorem built_markT (s : ByteArray) : Tryz.prog.built 75 [(1, .string s)] = some (B8 (List.replicate 32 0) ++ #[.string s, .int .i64 (hiS 0), .int .u64 (loN 0)]) := by kernel_rfl
set_option maxHeartbeats 1000000 in
theorem mkTc_any (w : World) (k i : Nat) (hk : k ≤ 100000) (hi : i ≤ 1000000) : Calls Tryz.prog 126 #[.int .i64 k, .int .i64 i] w fun e w' => e = .returned (.agg (mkTc k i)) ∧ Below w.heap.size w w' := by
 have hm := fun V => markText_gen V k i hk hi
 obtain ⟨x, hx⟩ : ∃ x : Int, x = (k : Int) := ⟨_, rfl⟩
 obtain ⟨y, hy⟩ : ∃ y : Int, y = (i : Int) := ⟨_, rfl⟩
 obtain ⟨tv, htv⟩ : ∃ t, t = txt (mkT k i) := ⟨_, rfl⟩
 obtain ⟨av, hav⟩ : ∃ t, t = mkTc k i := ⟨_, rfl⟩
 have hbl : ∀ W, (Instr.build 75 #[(1, .string tv)]).run Tryz.prog W = .ok (.agg av) W := fun W => by
  rw [htv, hav]
  exact run_build W 75 _ _ (built_markT _)
 have hsz : av.size = 35 := by rw [hav]; exact mkTc_size _ _
 have h1 : av.all (·.oneCell') = true := by rw [hav]; exact mkTc_one _ _
 rw [← hx, ← hy, ← htv] at hm
 rw [← hx, ← hy, ← hav]
 have HM := Lib.hid (And.intro hm (And.intro hsz h1))
 clear hm hx hy htv hav hsz h1 hk hi
 go_enter Tryz.func126, Tryz.ntmps126
 go_upto_region 1 with fail
 have hQ : Lies (w.alloc (.cells z35 75)) w.heap.size z35 75 := Lies.new w z35 75
 have hb : Below w.heap.size w (w.alloc (.cells z35 75)) := (Below.refl _ _).alloc (Nat.le_refl _) _
 change Code.wp _ _ _ _ (w.alloc (.cells z35 75))
 generalize w.alloc (.cells z35 75) = W0 at hQ hb ⊢
 have H := Lib.hid (And.intro hQ hb)
 clear hQ hb
 go_wp2_with fail
 refine (HM.out.1 _).mono ?_
 rintro e w2 ⟨rfl, hb2⟩
 have H2 := Lib.hid (And.intro (H.out.1.below hb2 H.out.1.lt) (H.out.2.trans (hb2.mono H.out.2.size)))
 clear hb2
 go_wp2_with (refine wpList_store_row rfl 75 _ _ rfl w.heap.size av rfl rfl 75 z35 H2.out.1 (by rw [HM.out.2.1]; exact info_total) (by rw [HM.out.2.1]; kernel_rfl) HM.out.2.2 ?_)
 exact bodyPost_ret (v := .agg av) (results_cell_row (p := 4) (ty := 75) (by kernel_rfl) _ _ w.heap.size 75 av (0, 0) _ rfl (H2.out.1.setRow _) Tryz.underlying75 rfl (by rw [HM.out.2.1]; exact info_total)) rfl ⟨rfl, below_setRow H2.out.2 _ _ (Nat.le_refl _)⟩
theorem mkTc_eq (k i : Nat) : ∀ W, (Op.equalIn 10000 75 (.agg (mkTc k i)) (.agg (mkTc k i))).run Tryz.prog W = .ok true W := fun W => by
 have := eq_to W (mkTo k i) (mkTo k i) (mkTo_ok k i) (mkTo_ok k i)
 rw [decide_eq_true rfl] at this
 exact this
theorem infoST : (Tryz.prog.info? 75).map (·.size) = some 35 := info_total
theorem make_rowsT (n : Nat) (w : World) (hn : n ≤ 1000) : ∃ cs : Array Value, cs.size = n ∧ (∀ i, i < n → cs[i]? = some (.slice none 0 0)) ∧ (Instr.makeSlice 58 (.int .i64 n) (.int .i64 n)).run Tryz.prog w = .ok (.slice (some ⟨w.heap.size, 0, none⟩) n n) (w.alloc (.cells cs 49)) :=
 make_rows_of _ _ Tryz.underlying58 (by kernel_rfl) n w hn
theorem make64T (w : World) : ∃ cs : Array Value, cs.size = 64 * 35 ∧ (Instr.makeSlice 49 (.int .i64 64) (.int .i64 64)).run Tryz.prog w = .ok (.slice (some ⟨w.heap.size, 0, none⟩) 64 64) (w.alloc (.cells cs 75)) :=
 make64_of _ _ Tryz.underlying49 35 64 info48 (by decide) (by decide) w
end Go.Proofs.YtjngghihciimjaaGreat
