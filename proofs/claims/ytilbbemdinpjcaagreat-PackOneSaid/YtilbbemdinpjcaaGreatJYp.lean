/-
  pack: the law's put, sort by sort (written by tools/gen_puth.py).
-/
import Derived.Test.YtilbbemdinpjcaaGreatJYn
import Derived.Test.YtilbbemdinpjcaaGreatJYl
set_option maxHeartbeats 16000000
namespace Go.Proofs.YtilbbemdinpjcaaGreat.P
set_option maxRecDepth 100000
open Go.RowKit Go.Sort
theorem getR_ok {α : Type} {ok : List α → Bool} {d : Option (List α × Option Nat)} {l : List α} {p : Nat} (h : getR ok d = some (l, p)) : ok l = true := by
 unfold getR at h
 split at h
 ·
  split at h
  ·
   rename_i hh
   cases h
   exact hh
  ·
   cases h
 ·
  cases h
theorem text_len {xs : List UInt8} {a b : Nat} {m : Int} (h : W.textS xs (some a) m = some b) : b = a + 2 + (W.textV xs (some a) m).length := by
 by_cases hn : W.TextOk xs a m
 ·
  simp only [W.textS, if_pos hn, Option.some.injEq] at h
  simp only [W.textV, if_pos hn]
  rw [W.cut_length hn.2.2]
  exact h.symm
 ·
  simp only [W.textS, if_neg hn] at h
  cases h
theorem as_eat {xs : List UInt8} {a b : Nat} (h : asE xs (some a) = some b) : a + (1 + (asV xs (some a)).nm.2.length / 16) ≤ b := by
 unfold asE at h
 obtain ⟨a2, e2, h2⟩ := numS_some h
 obtain ⟨a1, e1, _⟩ := textS_some e2
 rw [e1] at e2
 have h1 := numS_at e1
 have h3 := text_len e2
 unfold asV
 simp only [e1]
 omega
theorem row_eat {α : Type} {one : Option Nat → α} {nx : Option Nat → Option Nat} {c : α → Nat} (hs : ∀ a b, nx (some a) = some b → a + c (one (some a)) ≤ b) :
    ∀ (n : Nat) (acc : List α) (a : Nat) (l : List α) (p : Nat), rowD one nx n acc (some a) = some (l, some p) → ∃ m, l = acc ++ m ∧ a + (m.map c).sum ≤ p
  | 0, acc, a, l, p, h => by
    obtain ⟨e1, e2⟩ := Prod.mk.inj (Option.some.inj h)
    obtain rfl := Option.some.inj e2
    exact ⟨[], by rw [← e1, List.append_nil], Nat.le_refl _⟩
  | n + 1, acc, a, l, p, h => by
    unfold rowD at h
    split at h
    · rename_i hsm
      obtain ⟨b, hb⟩ := Option.isSome_iff_exists.1 hsm
      rw [hb] at h
      obtain ⟨m, e1, e2⟩ := row_eat hs n _ b l p h
      have h1 := hs a b hb
      refine ⟨one (some a) :: m, by rw [e1, List.append_assoc]; rfl, ?_⟩
      rw [List.map_cons, List.sum_cons]
      omega
    · cases h
theorem assets_eat {xs : List UInt8} {a p : Nat} {l : List As} (h : assetsD xs (some a) = some (l, some p)) : a + 2 + cntA l ≤ p := by
 unfold assetsD at h
 obtain ⟨b, hb, _⟩ := rowD_ge (fun st p h => asE_some h) _ _ _ l p h
 rw [hb] at h
 obtain ⟨m, e1, e2⟩ := row_eat (c := fun a => 1 + a.nm.2.length / 16) (fun a b h => as_eat h) _ _ b l p h
 rw [List.nil_append] at e1
 subst e1
 have h1 : b = a + 2 := by
  by_cases hn : W.CountOk xs a 30
  ·
   simp only [W.countS, if_pos hn, Option.some.injEq] at hb
   exact hb.symm
  ·
   simp only [W.countS, if_neg hn] at hb
   cases hb
 unfold cntA
 omega
theorem totals_eat {xs : List UInt8} {a p : Nat} {l : List To} (h : totalsD xs (some a) = some (l, some p)) : a + cntT l ≤ p := by
 unfold totalsD at h
 obtain ⟨b, hb, _⟩ := rowD_ge (fun st p h => toE_some h) _ _ _ l p h
 rw [hb] at h
 obtain ⟨m, e1, e2⟩ := row_eat (c := fun a => 1 + a.nm.2.length / 16) (fun a b h => by
  unfold toE at h
  obtain ⟨c, hc, hc2⟩ := numS_some h
  have := as_eat (b := c) hc
  have e : (toV xs (some a)).nm = (asV xs (some a)).nm := rfl
  rw [e]
  omega) _ _ b l p h
 rw [List.nil_append] at e1
 subst e1
 have h1 := numS_at hb
 unfold cntT
 omega
theorem value_eat {xs : List UInt8} {a p : Nat} {y : Int} {l : List As} (h : valD xs (some a) = some ((y, l), some p)) : a + 10 + cntA l ≤ p := by
  unfold valD at h
  cases hd : assetsD xs (W.numS xs (some a) 8) with
  | none => rw [hd] at h; cases h
  | some z =>
    obtain ⟨l2, s2⟩ := z
    rw [hd] at h
    have e := Option.some.inj h
    have e2 : l2 = l := congrArg (fun z => z.1.2) e
    have e3 : s2 = some p := congrArg Prod.snd e
    subst e2 e3
    obtain ⟨b, hb⟩ := assets_some hd
    rw [hb] at hd
    have h1 := numS_at hb
    have h2 := assets_eat hd
    omega
theorem node_eat {xs : List UInt8} {a b : Nat} {kd : Int} (h : ndP xs (some a) kd = some b) : a + (ndV xs (some a) kd).txt.size / 16 ≤ b := by
 obtain ⟨c, hc, hc2⟩ := ndP_some h
 obtain rfl := Option.some.inj hc
 unfold ndP at h
 unfold ndV
 by_cases h1 : kd = 1
 ·
  simp only [if_pos h1]
  show a + 0 / 16 ≤ b
  omega
 rw [if_neg h1] at h
 by_cases h2 : kd = 2
 ·
  rw [if_pos h2] at h
  simp only [if_neg h1, if_pos h2]
  have := text_len h
  show a + (W.textV xs (some a) 200).toArray.size / 16 ≤ b
  rw [List.size_toArray]
  omega
 by_cases h3 : kd = 3
 ·
  simp only [if_neg h1, if_neg h2, if_pos h3]
  show a + 0 / 16 ≤ b
  omega
 by_cases h5 : kd = 5
 ·
  simp only [if_neg h1, if_neg h2, if_neg h3, if_pos h5]
  show a + 0 / 16 ≤ b
  omega
 ·
  simp only [if_neg h1, if_neg h2, if_neg h3, if_neg h5]
  show a + 0 / 16 ≤ b
  omega
theorem term_eat {xs : List UInt8} : ∀ (f l : Nat) (acc : List T.Nd) (a : Nat) (ns : List T.Nd) (p : Nat), decT xs f l acc (some a) = some (ns, p) → ∃ m, ns = acc ++ m ∧ a + T.cost m ≤ p
  | f, 0, acc, a, ns, p, h => by
    rw [decT_end] at h
    have e := Option.some.inj h
    have e1 : acc = ns := congrArg Prod.fst e
    have e2 : a = p := congrArg Prod.snd e
    exact ⟨[], by rw [← e1, List.append_nil], by rw [← e2]; exact Nat.le_refl _⟩
  | 0, l + 1, acc, a, ns, p, h => by cases h
  | f + 1, l + 1, acc, a, ns, p, h => by
    unfold decT at h
    split at h
    · obtain ⟨b, hb, _⟩ := decT_ge xs _ _ _ _ ns p h
      obtain ⟨c, hc, _⟩ := ndP_some hb
      have hb2 := hb
      rw [hc] at hb2
      rw [hb] at h
      obtain ⟨m, e1, e2⟩ := term_eat f _ _ b ns p h
      have h1 := numS_at hc
      have h2 := node_eat hb2
      refine ⟨_ :: m, by rw [e1, List.append_assoc]; rfl, ?_⟩
      unfold T.cost
      rw [hc]
      omega
    · cases h
def cntOV (v : OutV) : Nat := 1 + cntA v.l + T.cost v.ns
theorem cntOV_eq (o : Ot) : cntOV (outV o) = cntO o := rfl
theorem out_eat {xs : List UInt8} {a p : Nat} {v : OutV} (h : outD xs (some a) = some (v, p)) : a + cntOV v ≤ p := by
  have key : ∀ (y : Int) (l : List As) (s2 : Option Nat) (q : Nat), valD xs (adE xs (some a)) = some ((y, l), s2) → W.numS xs s2 1 = some q → a + 1 + cntA l ≤ q := fun y l s2 q hv hq => by
    obtain ⟨b, hb, h1⟩ := numS_some hq
    subst hb
    obtain ⟨c, hc⟩ := val_some hv
    rw [hc] at hv
    have h2 := value_eat hv
    unfold adE at hc
    obtain ⟨d, hd, h3⟩ := numS_some hc
    obtain ⟨e, he, h4⟩ := flagS_some hd
    obtain rfl := Option.some.inj he
    omega
  unfold outD at h
  split at h
  · cases h
  · rename_i y l s2 hv
    split at h
    · cases h3 : W.numS xs (W.numS xs s2 1) 32 with
      | none => rw [h3] at h; cases h
      | some q =>
        rw [h3] at h
        have e := Option.some.inj h
        have e1 : _ = v := congrArg Prod.fst e
        have e2 : q = p := congrArg Prod.snd e
        obtain ⟨b, hb, h4⟩ := numS_some h3
        have hk := key y l s2 b hv hb
        rw [← e1, ← e2]
        show a + (1 + cntA l + 0) ≤ q
        omega
    split at h
    · cases h3 : decT xs 100 1 [] (W.numS xs s2 1) with
      | none => rw [h3] at h; cases h
      | some z =>
        obtain ⟨ns, q⟩ := z
        rw [h3] at h
        have e := Option.some.inj h
        have e1 : _ = v := congrArg Prod.fst e
        have e2 : q = p := congrArg Prod.snd e
        obtain ⟨b, hb, _⟩ := decT_ge xs _ _ _ _ ns q h3
        rw [hb] at h3
        have hk := key y l s2 b hv hb
        obtain ⟨m, e4, e5⟩ := term_eat _ _ _ b ns q h3
        rw [List.nil_append] at e4
        rw [← e1, ← e2]
        show a + (1 + cntA l + T.cost ns) ≤ q
        rw [e4]
        omega
    · cases h3 : W.numS xs s2 1 with
      | none => rw [h3] at h; cases h
      | some q =>
        rw [h3] at h
        have e := Option.some.inj h
        have e1 : _ = v := congrArg Prod.fst e
        have e2 : q = p := congrArg Prod.snd e
        have hk := key y l s2 q hv h3
        rw [← e1, ← e2]
        show a + (1 + cntA l + 0) ≤ q
        omega
def cntEV (l : List (Rf × OutV)) : Nat := (l.map fun y => 1 + cntOV y.2).sum
theorem cntEV_eq (l : List En) : cntEV (l.map enV) = cntE l := by
 unfold cntEV cntE
 rw [List.map_map]
 rfl
theorem ent_eat {xs : List UInt8} {a p : Nat} {y : Rf × OutV} (h : entD xs (some a) = some (y, p)) : a + (1 + cntOV y.2) ≤ p := by
  unfold entD at h
  cases hd : outD xs (rfE xs (some a)) with
  | none => rw [hd] at h; cases h
  | some z =>
    obtain ⟨v, q⟩ := z
    rw [hd] at h
    have e := Option.some.inj h
    have e1 : (rfV xs (some a), v) = y := congrArg Prod.fst e
    have e2 : q = p := congrArg Prod.snd e
    obtain ⟨b, hb, _⟩ := outD_ge hd
    rw [hb] at hd
    have h1 := out_eat hd
    unfold rfE at hb
    obtain ⟨c, hc, h2⟩ := countS_some hb
    have h3 := numS_at hc
    rw [← e1, ← e2]
    show a + (1 + cntOV v) ≤ q
    omega
theorem ents_eat {xs : List UInt8} : ∀ (n : Nat) (acc : List (Rf × OutV)) (a : Nat) (l : List (Rf × OutV)) (p : Nat), rowE xs n acc (some a) = some (l, some p) → ∃ m, l = acc ++ m ∧ a + cntEV m ≤ p
  | 0, acc, a, l, p, h => by
    obtain ⟨e1, e2⟩ := Prod.mk.inj (Option.some.inj h)
    obtain rfl := Option.some.inj e2
    exact ⟨[], by rw [← e1, List.append_nil], Nat.le_refl _⟩
  | n + 1, acc, a, l, p, h => by
    unfold rowE at h
    split at h
    · rename_i y b hb
      obtain ⟨m, e1, e2⟩ := ents_eat n _ b l p h
      have h1 := ent_eat hb
      refine ⟨y :: m, by rw [e1, List.append_assoc]; rfl, ?_⟩
      unfold cntEV at e2 ⊢
      rw [List.map_cons, List.sum_cons]
      omega
    · cases h
theorem entries_eat {xs : List UInt8} {a p : Nat} {l : List (Rf × OutV)} (h : entriesD xs (some a) = some (l, some p)) : a + cntEV l ≤ p := by
 unfold entriesD at h
 obtain ⟨b, hb, _⟩ := ents_ge _ _ _ l p h
 rw [hb] at h
 obtain ⟨m, e1, e2⟩ := ents_eat _ _ b l p h
 rw [List.nil_append] at e1
 subst e1
 have := numS_at hb
 omega
def cntDV (d : DfV) : Nat := cntEV d.s + cntEV d.m + d.l.length
theorem cntT_ge (l : List To) : l.length ≤ cntT l := by
 unfold cntT
 induction l with
 | nil => exact Nat.le_refl _
 | cons a l ih => rw [List.map_cons, List.sum_cons, List.length_cons]; omega
theorem diff_eat {xs : List UInt8} {a p : Nat} {d : DfV} (h : diffD xs (some a) = some (d, some p)) : a + cntDV d ≤ p := by
 unfold diffD at h
 split at h
 ·
  cases h
 rename_i s s1 h1
 split at h
 ·
  cases h
 rename_i m s2 h2
 split at h
 ·
  cases h
 rename_i l s3 h3
 have e := Option.some.inj h
 have e1 : _ = d := congrArg Prod.fst e
 have e2 : s3 = some p := congrArg Prod.snd e
 subst e2
 obtain ⟨b4, hb4⟩ := totals_some h3
 obtain ⟨b3, hb3, k1⟩ := numS_some hb4
 obtain ⟨b2, hb2, k2⟩ := numS_some hb3
 subst hb2
 rw [hb4] at h3
 obtain ⟨b1, hb1⟩ := entries_some h2
 subst hb1
 have k3 := entries_eat h1
 have k4 := entries_eat h2
 have k5 := totals_eat h3
 have k6 := cntT_ge l
 rw [← e1]
 show a + (cntEV s + cntEV m + l.length) ≤ p
 omega
def putS (st : Option (List UInt8)) (x : Th) : Nat → Option (List UInt8)
 | 0 => if T.rightB x.ns then termS st x.ns else none
 | 1 => if mintB x.l then asListS st x.l else none
 | 2 => if rightV x.v then valS st x.v else none
 | 3 => if wellT nzT x.t then totS st x.t else none
 | 4 => if rightOB x.o then outS st x.o else none
 | 5 => if rightRefB x.r then refS st x.r else none
 | 6 => if rightEB x.es then ensS st x.es else none
 | _ => if rightDB x.d then diffS st x.d else none
def cntTh (x : Th) : Nat → Nat
 | 0 => T.cost x.ns
 | 1 => cntA x.l
 | 2 => cntV x.v
 | 3 => cntT x.t
 | 4 => cntO x.o
 | 5 => 0
 | 6 => cntE x.es
 | _ => cntE x.d.s + cntE x.d.m + x.d.l.length
theorem got_put {xs : List UInt8} {k : Nat} (hk : k < 8) {x : Th} {p : Nat} (h : getTh xs (some 0) k = some (thV x, p)) : putS (some []) x k = some (xs.take p) ∧ cntTh x k ≤ p := by
  have e0 : (some [] : Option (List UInt8)) = some (xs.take 0) := by rw [List.take_zero]
  rw [e0]
  obtain rfl | rfl | rfl | rfl | rfl | rfl | rfl | rfl : k = 0 ∨ k = 1 ∨ k = 2 ∨ k = 3 ∨ k = 4 ∨ k = 5 ∨ k = 6 ∨ k = 7 := by omega
  · unfold getTh getT at h
    cases hd : decT xs 100 1 [] (some 0) with
    | none => rw [hd] at h; cases h
    | some z =>
      obtain ⟨ns, q⟩ := z
      rw [hd] at h
      simp only at h
      split at h
      · rename_i hr
        have e := Option.some.inj h
        have e1 : ns = x.ns := congrArg (fun y => y.1.ns) e
        have e2 : q = p := congrArg Prod.snd e
        subst e1 e2
        obtain ⟨m, a1, a2⟩ := term_sync _ _ _ _ _ _ hd
        obtain ⟨m2, b1, b2⟩ := term_eat _ _ _ _ _ _ hd
        rw [List.nil_append] at a1 b1
        show (if T.rightB x.ns = true then termS (some (xs.take 0)) x.ns else none) = _ ∧ T.cost x.ns ≤ _
        rw [if_pos hr, a1, a2, ← a1, b1]
        exact ⟨rfl, by omega⟩
      · cases h
  · unfold getTh at h
    cases hd : getR mintB (assetsD xs (some 0)) with
    | none => rw [hd] at h; cases h
    | some z =>
      obtain ⟨l, q⟩ := z
      rw [hd] at h
      have e := Option.some.inj h
      have e1 : l = x.l := congrArg (fun y => y.1.l) e
      have e2 : q = p := congrArg Prod.snd e
      subst e1 e2
      have h1 := getR_row hd
      have h2 := getR_ok hd
      show (if mintB x.l = true then asListS (some (xs.take 0)) x.l else none) = _ ∧ cntA x.l ≤ _
      rw [if_pos h2]
      have := assets_eat h1
      exact ⟨assets_sync h1, by omega⟩
  · unfold getTh at h
    cases hd : getVal xs (some 0) with
    | none => rw [hd] at h; cases h
    | some z =>
      obtain ⟨⟨y, l⟩, q⟩ := z
      rw [hd] at h
      have e := Option.some.inj h
      have e0 : y = x.v.coin := congrArg (fun y => y.1.coin) e
      have e1 : l = x.v.l := congrArg (fun y => y.1.vl) e
      have e2 : q = p := congrArg Prod.snd e
      unfold getVal at hd
      split at hd
      · rename_i y2 l2 p2 hv
        split at hd
        · rename_i hr
          have e' := Option.some.inj hd
          have e3 : y2 = y := congrArg (fun z => z.1.1) e'
          have e4 : l2 = l := congrArg (fun z => z.1.2) e'
          have e5 : p2 = q := congrArg Prod.snd e'
          subst e3 e4 e5 e2
          rw [e0, e1] at hv hr
          have h2 := value_eat hv
          show (if rightV x.v = true then valS (some (xs.take 0)) x.v else none) = _ ∧ cntV x.v ≤ _
          have hr2 : rightV x.v = true := hr
          rw [if_pos hr2]
          refine ⟨value_sync hv x.v.pa x.v.c, ?_⟩
          show 1 + cntA x.v.l ≤ p2
          omega
        · cases hd
      · cases hd
  · unfold getTh at h
    cases hd : getR (wellT nzT) (totalsD xs (some 0)) with
    | none => rw [hd] at h; cases h
    | some z =>
      obtain ⟨l, q⟩ := z
      rw [hd] at h
      have e := Option.some.inj h
      have e1 : l = x.t := congrArg (fun y => y.1.t) e
      have e2 : q = p := congrArg Prod.snd e
      subst e1 e2
      have h1 := getR_row hd
      have h2 := getR_ok hd
      show (if wellT nzT x.t = true then totS (some (xs.take 0)) x.t else none) = _ ∧ cntT x.t ≤ _
      rw [if_pos h2]
      have := totals_eat h1
      exact ⟨totals_sync h1, by omega⟩
  · unfold getTh getOut at h
    cases hd : outD xs (some 0) with
    | none => rw [hd] at h; cases h
    | some z =>
      obtain ⟨v, q⟩ := z
      rw [hd] at h
      unfold getOutOf at h
      simp only at h
      split at h
      · rename_i hr
        have e := Option.some.inj h
        have e1 : v = outV x.o := congrArg (fun y => y.1.o) e
        have e2 : q = p := congrArg Prod.snd e
        subst e1 e2
        rw [rightOV_eq] at hr
        show (if rightOB x.o = true then outS (some (xs.take 0)) x.o else none) = _ ∧ cntO x.o ≤ _
        rw [if_pos hr, ← outSV_eq, ← cntOV_eq]
        have := out_eat hd
        exact ⟨out_sync hd, by omega⟩
      · cases h
  · unfold getTh getRef at h
    cases hd : rfE xs (some 0) with
    | none => rw [hd] at h; cases h
    | some q =>
      rw [hd] at h
      simp only at h
      split at h
      · rename_i hr
        have e := Option.some.inj h
        have e1 : rfV xs (some 0) = x.r := congrArg (fun y => y.1.r) e
        have e2 : q = p := congrArg Prod.snd e
        subst e2
        rw [e1] at hr
        show (if rightRefB x.r = true then refS (some (xs.take 0)) x.r else none) = _ ∧ 0 ≤ _
        rw [if_pos hr, ← e1]
        exact ⟨ref_sync hd, Nat.zero_le _⟩
      · cases h
  · unfold getTh getEs at h
    cases hd : entriesD xs (some 0) with
    | none => rw [hd] at h; cases h
    | some z =>
      obtain ⟨l, s⟩ := z
      rw [hd] at h
      cases s with
      | none => cases h
      | some q =>
        unfold getEsOf at h
        simp only at h
        split at h
        · rename_i hr
          have e := Option.some.inj h
          have e1 : l = x.es.map enV := congrArg (fun y => y.1.es) e
          have e2 : q = p := congrArg Prod.snd e
          subst e1 e2
          rw [rightEV_eq] at hr
          show (if rightEB x.es = true then ensS (some (xs.take 0)) x.es else none) = _ ∧ cntE x.es ≤ _
          rw [if_pos hr, ← ensSV_eq, ← cntEV_eq]
          have := entries_eat hd
          exact ⟨entries_sync hd, by omega⟩
        · cases h
  · unfold getTh getDi at h
    cases hd : diffD xs (some 0) with
    | none => rw [hd] at h; cases h
    | some z =>
      obtain ⟨d, s⟩ := z
      rw [hd] at h
      cases s with
      | none => cases h
      | some q =>
        unfold getDiOf at h
        simp only at h
        split at h
        · rename_i hr
          have e := Option.some.inj h
          have e1 : d = diV x.d := congrArg (fun y => y.1.d) e
          have e2 : q = p := congrArg Prod.snd e
          subst e1 e2
          rw [rightDV_eq] at hr
          show (if rightDB x.d = true then diffS (some (xs.take 0)) x.d else none) = _ ∧ cntE x.d.s + cntE x.d.m + x.d.l.length ≤ _
          rw [if_pos hr, ← diffSV_eq]
          have h2 := diff_eat hd
          refine ⟨diff_sync hd, ?_⟩
          have h3 : cntDV (diV x.d) = cntE x.d.s + cntE x.d.m + x.d.l.length := by
            unfold cntDV diV
            simp only [cntEV_eq]
          omega
        · cases h
end Go.Proofs.YtilbbemdinpjcaaGreat.P
namespace Go.Proofs.YtilbbemdinpjcaaGreat.P
set_option maxRecDepth 100000
open Go.RowKit Go.Sort
structure PutIn (x : Th) : Prop where
 ti : ∀ y ∈ x.ns, NdIn y
 tc : x.ns.length ≤ x.tc
 oi : ∀ y ∈ x.o.ns, NdIn y
 ei : ∀ e ∈ x.es, ∀ y ∈ e.o.ns, NdIn y
 si : ∀ e ∈ x.d.s, ∀ y ∈ e.o.ns, NdIn y
 mi : ∀ e ∈ x.d.m, ∀ y ∈ e.o.ns, NdIn y
 room : DfRoom x.d
theorem ThIn.put {V : World} {B : Nat} {x : Th} (h : ThIn V B x) : PutIn x :=
 ⟨h.ti, (h.t.tat (by have := h.tl; omega) (fun y hy => by have := (h.ti y hy).kids.2; omega)).2.2, h.o.2.2.2.2.2.1, fun e he => (h.e.2 e he).1.2.2.2.2.2.2.1, fun e he => (h.d.1.2 e he).1.2.2.2.2.2.2.1, fun e he => (h.d.2.1.2 e he).1.2.2.2.2.2.2.1, h.d.room⟩
theorem put_front (w : World) {B g : Nat} {v : Value} {st : Option (List UInt8)} (x : Th) (hT0 : Stays g w v fun W => ThOk W x) (h : WrO W.WSt w B g v st) :
  ∃ W0, w.alloc (.cells (thC x) 42) = W0 ∧ Stays g W0 v (fun W => ThOk W x) ∧ WrO W.WSt W0 B g v st ∧ ThAt W0 w.heap.size x ∧ Hid (Lk g w v W0 v) := by
 have hb : Below w.heap.size w (w.alloc (.cells (thC x) 42)) := (Below.refl _ _).alloc (Nat.le_refl _) _
 have hT := hT0.on (Lk.of_below hb)
 exact ⟨_, rfl, hT, h.belowW hb, thAt_of (Lies.new w (thC x) 42) hT.now.o.ah hT.now.o.dh hT.now.r.1, Lib.hid (Lk.of_below hb)⟩
theorem put0_any (w : World) {B g : Nat} {v : Value} {st : Option (List UInt8)} (x : Th) (hT0 : Stays g w v fun W => ThOk W x) (hi : PutIn x) (h : WrO W.WSt w B g v st) (hx : sz st ≤ 2000) (hc : cntTh x 0 ≤ 2000) :
  Calls Tryz.prog 37 #[.pointer (some ⟨g, 0, none⟩), .agg (thC x), .int .i64 0] w (PutR W.WSt w B g v (putS st x 0)) := by
 obtain ⟨W0, HW, hT, hw, ht, HL⟩ := put_front w x hT0 h
 have hcl := putTerm_any W0 x.tp x.tc x.ns (hT.imp fun W k => k.t) hi.tc hi.ti hw (by have : T.cost x.ns ≤ 2000 := hc; omega)
 obtain ⟨s3, hs3⟩ : ∃ s, s = putS st x 0 := ⟨_, rfl⟩
 rw [show (if T.rightB x.ns = true then termS st x.ns else none) = s3 from hs3.symm] at hcl
 obtain ⟨ta, hta⟩ : ∃ y, y = x.tp := ⟨_, rfl⟩
 obtain ⟨n, hn⟩ : ∃ y, y = x.ns.length := ⟨_, rfl⟩
 obtain ⟨xa, hxa⟩ : ∃ y, y = x.tc := ⟨_, rfl⟩
 rw [← hta, ← hn, ← hxa] at hcl
 have c0 : W0.cell? ⟨w.heap.size, 0, none⟩ = some (.slice ta n xa) := by rw [hta, hn, hxa]; exact ht.t
 have HC := Lib.hid hcl
 obtain ⟨tc, htc⟩ : ∃ t, t = thC x := ⟨_, rfl⟩
 rw [← htc] at HW ⊢
 rw [← hs3]
 clear hT0 hi h hx hc hT hw ht hcl hs3 hta hn hxa htc
 go_enter Tryz.func37, Tryz.ntmps37
 obtain ⟨p, hp⟩ : ∃ p, p = w.heap.size := ⟨_, rfl⟩
 go_upto_region 1 with fail
 rw [← hp]
 rw [← hp] at c0
 clear HW hp
 go_wp2_with fail
 refine HC.out.mono ?_
 rintro e W2 hr2
 obtain ⟨rfl, hr2⟩ := hr2
 have HE := Lib.hid hr2
 clear hr2 HC
 clear c0
 go_wp2_with fail
 go_end0
 exact PutR.on HL.out ⟨rfl, HE.out⟩
theorem put1_any (w : World) {B g : Nat} {v : Value} {st : Option (List UInt8)} (x : Th) (hT0 : Stays g w v fun W => ThOk W x) (hi : PutIn x) (h : WrO W.WSt w B g v st) (hx : sz st ≤ 2000) (hc : cntTh x 1 ≤ 2000) :
  Calls Tryz.prog 37 #[.pointer (some ⟨g, 0, none⟩), .agg (thC x), .int .i64 1] w (PutR W.WSt w B g v (putS st x 1)) := by
 obtain ⟨W0, HW, hT, hw, ht, HL⟩ := put_front w x hT0 h
 have hcl := putAssets_any W0 x.pa x.c x.l (hT.imp fun W k => k.a) hw (by have : cntA x.l ≤ 2000 := hc; omega)
 obtain ⟨s3, hs3⟩ : ∃ s, s = putS st x 1 := ⟨_, rfl⟩
 rw [show (if mintB x.l = true then asListS st x.l else none) = s3 from hs3.symm] at hcl
 obtain ⟨ta, hta⟩ : ∃ y, y = x.pa := ⟨_, rfl⟩
 obtain ⟨n, hn⟩ : ∃ y, y = x.l.length := ⟨_, rfl⟩
 obtain ⟨xa, hxa⟩ : ∃ y, y = x.c := ⟨_, rfl⟩
 rw [← hta, ← hn, ← hxa] at hcl
 have c0 : W0.cell? ⟨w.heap.size, 1, none⟩ = some (.slice ta n xa) := by rw [hta, hn, hxa]; exact ht.a
 have HC := Lib.hid hcl
 obtain ⟨tc, htc⟩ : ∃ t, t = thC x := ⟨_, rfl⟩
 rw [← htc] at HW ⊢
 rw [← hs3]
 clear hT0 hi h hx hc hT hw ht hcl hs3 hta hn hxa htc
 go_enter Tryz.func37, Tryz.ntmps37
 obtain ⟨p, hp⟩ : ∃ p, p = w.heap.size := ⟨_, rfl⟩
 go_upto_region 1 with fail
 rw [← hp]
 rw [← hp] at c0
 clear HW hp
 go_wp2_with fail
 refine HC.out.mono ?_
 rintro e W2 hr2
 obtain ⟨rfl, hr2⟩ := hr2
 have HE := Lib.hid hr2
 clear hr2 HC
 clear c0
 go_wp2_with fail
 go_end0
 exact PutR.on HL.out ⟨rfl, HE.out⟩
theorem put2_any (w : World) {B g : Nat} {v : Value} {st : Option (List UInt8)} (x : Th) (hT0 : Stays g w v fun W => ThOk W x) (hi : PutIn x) (h : WrO W.WSt w B g v st) (hx : sz st ≤ 2000) (hc : cntTh x 2 ≤ 2000) :
  Calls Tryz.prog 37 #[.pointer (some ⟨g, 0, none⟩), .agg (thC x), .int .i64 2] w (PutR W.WSt w B g v (putS st x 2)) := by
 obtain ⟨W0, HW, hT, hw, ht, HL⟩ := put_front w x hT0 h
 have hcl := putValue_any W0 x.v (hT.imp fun W k => k.v.2.2) hw (by have : cntV x.v ≤ 2000 := hc; omega)
 obtain ⟨s3, hs3⟩ : ∃ s, s = putS st x 2 := ⟨_, rfl⟩
 rw [show (if rightV x.v = true then valS st x.v else none) = s3 from hs3.symm] at hcl
 obtain ⟨y, hy⟩ : ∃ y, y = x.v.coin := ⟨_, rfl⟩
 obtain ⟨ta, hta⟩ : ∃ y, y = x.v.pa := ⟨_, rfl⟩
 obtain ⟨n, hn⟩ : ∃ y, y = x.v.l.length := ⟨_, rfl⟩
 obtain ⟨xa, hxa⟩ : ∃ y, y = x.v.c := ⟨_, rfl⟩
 unfold vaC at hcl
 rw [← hy, ← hta, ← hn, ← hxa] at hcl
 have c0 : W0.cell? ⟨w.heap.size, 2, none⟩ = some (.int .i64 y) := by rw [hy]; exact ht.c
 have c1 : W0.cell? ⟨w.heap.size, 3, none⟩ = some (.slice ta n xa) := by rw [hta, hn, hxa]; exact ht.v
 have HC := Lib.hid hcl
 obtain ⟨tc, htc⟩ : ∃ t, t = thC x := ⟨_, rfl⟩
 rw [← htc] at HW ⊢
 rw [← hs3]
 clear hT0 hi h hx hc hT hw ht hcl hs3 hy hta hn hxa htc
 go_enter Tryz.func37, Tryz.ntmps37
 obtain ⟨p, hp⟩ : ∃ p, p = w.heap.size := ⟨_, rfl⟩
 go_upto_region 1 with fail
 rw [← hp]
 rw [← hp] at c0
 rw [← hp] at c1
 clear HW hp
 go_wp2_with fail
 refine HC.out.mono ?_
 rintro e W2 hr2
 obtain ⟨rfl, hr2⟩ := hr2
 have HE := Lib.hid hr2
 clear hr2 HC
 clear c0 c1
 go_wp2_with fail
 go_end0
 exact PutR.on HL.out ⟨rfl, HE.out⟩
theorem put3_any (w : World) {B g : Nat} {v : Value} {st : Option (List UInt8)} (x : Th) (hT0 : Stays g w v fun W => ThOk W x) (hi : PutIn x) (h : WrO W.WSt w B g v st) (hx : sz st ≤ 2000) (hc : cntTh x 3 ≤ 2000) :
  Calls Tryz.prog 37 #[.pointer (some ⟨g, 0, none⟩), .agg (thC x), .int .i64 3] w (PutR W.WSt w B g v (putS st x 3)) := by
 obtain ⟨W0, HW, hT, hw, ht, HL⟩ := put_front w x hT0 h
 have hcl := putTotals_any W0 x.pt x.ct x.t (hT.imp fun W k => k.tot) hw (by have : cntT x.t ≤ 2000 := hc; omega)
 obtain ⟨s3, hs3⟩ : ∃ s, s = putS st x 3 := ⟨_, rfl⟩
 rw [show (if wellT nzT x.t = true then totS st x.t else none) = s3 from hs3.symm] at hcl
 obtain ⟨ta, hta⟩ : ∃ y, y = x.pt := ⟨_, rfl⟩
 obtain ⟨n, hn⟩ : ∃ y, y = x.t.length := ⟨_, rfl⟩
 obtain ⟨xa, hxa⟩ : ∃ y, y = x.ct := ⟨_, rfl⟩
 rw [← hta, ← hn, ← hxa] at hcl
 have c0 : W0.cell? ⟨w.heap.size, 4, none⟩ = some (.slice ta n xa) := by rw [hta, hn, hxa]; exact ht.tot
 have HC := Lib.hid hcl
 obtain ⟨tc, htc⟩ : ∃ t, t = thC x := ⟨_, rfl⟩
 rw [← htc] at HW ⊢
 rw [← hs3]
 clear hT0 hi h hx hc hT hw ht hcl hs3 hta hn hxa htc
 go_enter Tryz.func37, Tryz.ntmps37
 obtain ⟨p, hp⟩ : ∃ p, p = w.heap.size := ⟨_, rfl⟩
 go_upto_region 1 with fail
 rw [← hp]
 rw [← hp] at c0
 clear HW hp
 go_wp2_with fail
 refine HC.out.mono ?_
 rintro e W2 hr2
 obtain ⟨rfl, hr2⟩ := hr2
 have HE := Lib.hid hr2
 clear hr2 HC
 clear c0
 go_wp2_with fail
 go_end0
 exact PutR.on HL.out ⟨rfl, HE.out⟩
theorem put4_any (w : World) {B g : Nat} {v : Value} {st : Option (List UInt8)} (x : Th) (hT0 : Stays g w v fun W => ThOk W x) (hi : PutIn x) (h : WrO W.WSt w B g v st) (hx : sz st ≤ 2000) (hc : cntTh x 4 ≤ 2000) :
  Calls Tryz.prog 37 #[.pointer (some ⟨g, 0, none⟩), .agg (thC x), .int .i64 4] w (PutR W.WSt w B g v (putS st x 4)) := by
 obtain ⟨W0, HW, hT, hw, ht, HL⟩ := put_front w x hT0 h
 have hcl := putOutput_any W0 x.o (hT.imp fun W k => k.o) hi.oi hw (by have : cntO x.o ≤ 2000 := hc; omega)
 obtain ⟨s3, hs3⟩ : ∃ s, s = putS st x 4 := ⟨_, rfl⟩
 rw [show (if rightOB x.o = true then outS st x.o else none) = s3 from hs3.symm] at hcl
 obtain ⟨cs, hcs⟩ : ∃ y, y = otC x.o := ⟨_, rfl⟩
 rw [← hcs] at hcl
 have HR := Lib.hid (And.intro (show W0.rangeAt w.heap.size 5 cs.toList by rw [hcs]; exact ht.o) (show (Tryz.prog.info? 35).map (·.size) = some cs.toList.length from by rw [hcs, Array.length_toList, otC_size _ hT.now.o.ah hT.now.o.dh]; exact info_output))
 have HC := Lib.hid hcl
 obtain ⟨tc, htc⟩ : ∃ t, t = thC x := ⟨_, rfl⟩
 rw [← htc] at HW ⊢
 rw [← hs3]
 clear hT0 hi h hx hc hT hw ht hcl hs3 hcs htc
 go_enter Tryz.func37, Tryz.ntmps37
 obtain ⟨p, hp⟩ : ∃ p, p = w.heap.size := ⟨_, rfl⟩
 go_upto_region 1 with fail
 rw [← hp]
 rw [← hp] at HR
 clear HW hp
 go_wp2_with (refine wpList_load_mid rfl 35 _ rfl p 5 rfl cs.toList _ HR.out.1 Tryz.underlying35 rfl HR.out.2 ?_)
 refine HC.out.mono ?_
 rintro e W2 hr2
 obtain ⟨rfl, hr2⟩ := hr2
 have HE := Lib.hid hr2
 clear hr2 HC
 go_wp2_with fail
 go_end0
 exact PutR.on HL.out ⟨rfl, HE.out⟩
theorem put5_any (w : World) {B g : Nat} {v : Value} {st : Option (List UInt8)} (x : Th) (hT0 : Stays g w v fun W => ThOk W x) (hi : PutIn x) (h : WrO W.WSt w B g v st) (hx : sz st ≤ 2000) (hc : cntTh x 5 ≤ 2000) :
  Calls Tryz.prog 37 #[.pointer (some ⟨g, 0, none⟩), .agg (thC x), .int .i64 5] w (PutR W.WSt w B g v (putS st x 5)) := by
 obtain ⟨W0, HW, hT, hw, ht, HL⟩ := put_front w x hT0 h
 have hcl := putRef_any W0 x.r hT.now.r.1 (hT.imp fun W k => trivial) hw (by omega)
 obtain ⟨s3, hs3⟩ : ∃ s, s = putS st x 5 := ⟨_, rfl⟩
 rw [show (if rightRefB x.r = true then refS st x.r else none) = s3 from hs3.symm] at hcl
 obtain ⟨cs, hcs⟩ : ∃ y, y = refC x.r := ⟨_, rfl⟩
 rw [← hcs] at hcl
 have HR := Lib.hid (And.intro (show W0.rangeAt w.heap.size 74 cs.toList by rw [hcs]; exact ht.r) (show (Tryz.prog.info? 37).map (·.size) = some cs.toList.length from by rw [hcs, Array.length_toList, refC_size _ hT.now.r.1]; exact info_ref))
 have HC := Lib.hid hcl
 obtain ⟨tc, htc⟩ : ∃ t, t = thC x := ⟨_, rfl⟩
 rw [← htc] at HW ⊢
 rw [← hs3]
 clear hT0 hi h hx hc hT hw ht hcl hs3 hcs htc
 go_enter Tryz.func37, Tryz.ntmps37
 obtain ⟨p, hp⟩ : ∃ p, p = w.heap.size := ⟨_, rfl⟩
 go_upto_region 1 with fail
 rw [← hp]
 rw [← hp] at HR
 clear HW hp
 go_wp2_with (refine wpList_load_mid rfl 37 _ rfl p 74 rfl cs.toList _ HR.out.1 Tryz.underlying37 rfl HR.out.2 ?_)
 refine HC.out.mono ?_
 rintro e W2 hr2
 obtain ⟨rfl, hr2⟩ := hr2
 have HE := Lib.hid hr2
 clear hr2 HC
 go_wp2_with fail
 go_end0
 exact PutR.on HL.out ⟨rfl, HE.out⟩
theorem put6_any (w : World) {B g : Nat} {v : Value} {st : Option (List UInt8)} (x : Th) (hT0 : Stays g w v fun W => ThOk W x) (hi : PutIn x) (h : WrO W.WSt w B g v st) (hx : sz st ≤ 2000) (hc : cntTh x 6 ≤ 2000) :
  Calls Tryz.prog 37 #[.pointer (some ⟨g, 0, none⟩), .agg (thC x), .int .i64 6] w (PutR W.WSt w B g v (putS st x 6)) := by
 obtain ⟨W0, HW, hT, hw, ht, HL⟩ := put_front w x hT0 h
 have hcl := putEntries_any W0 x.pe x.ce x.es (hT.imp fun W k => k.e) hi.ei hw (by have : cntE x.es ≤ 2000 := hc; omega)
 obtain ⟨s3, hs3⟩ : ∃ s, s = putS st x 6 := ⟨_, rfl⟩
 rw [show (if rightEB x.es = true then ensS st x.es else none) = s3 from hs3.symm] at hcl
 obtain ⟨ta, hta⟩ : ∃ y, y = x.pe := ⟨_, rfl⟩
 obtain ⟨n, hn⟩ : ∃ y, y = x.es.length := ⟨_, rfl⟩
 obtain ⟨xa, hxa⟩ : ∃ y, y = x.ce := ⟨_, rfl⟩
 rw [← hta, ← hn, ← hxa] at hcl
 have c0 : W0.cell? ⟨w.heap.size, 107, none⟩ = some (.slice ta n xa) := by rw [hta, hn, hxa]; exact ht.e
 have HC := Lib.hid hcl
 obtain ⟨tc, htc⟩ : ∃ t, t = thC x := ⟨_, rfl⟩
 rw [← htc] at HW ⊢
 rw [← hs3]
 clear hT0 hi h hx hc hT hw ht hcl hs3 hta hn hxa htc
 go_enter Tryz.func37, Tryz.ntmps37
 obtain ⟨p, hp⟩ : ∃ p, p = w.heap.size := ⟨_, rfl⟩
 go_upto_region 1 with fail
 rw [← hp]
 rw [← hp] at c0
 clear HW hp
 go_wp2_with fail
 refine HC.out.mono ?_
 rintro e W2 hr2
 obtain ⟨rfl, hr2⟩ := hr2
 have HE := Lib.hid hr2
 clear hr2 HC
 clear c0
 go_wp2_with fail
 go_end0
 exact PutR.on HL.out ⟨rfl, HE.out⟩
theorem put7_any (w : World) {B g : Nat} {v : Value} {st : Option (List UInt8)} (x : Th) (hT0 : Stays g w v fun W => ThOk W x) (hi : PutIn x) (h : WrO W.WSt w B g v st) (hx : sz st ≤ 2000) (hc : cntTh x 7 ≤ 2000) :
  Calls Tryz.prog 37 #[.pointer (some ⟨g, 0, none⟩), .agg (thC x), .int .i64 7] w (PutR W.WSt w B g v (putS st x 7)) := by
 obtain ⟨W0, HW, hT, hw, ht, HL⟩ := put_front w x hT0 h
 have hcl := putDiff_any W0 x.d hi.room (hT.imp fun W k => k.d) hi.si hi.mi hw (by have : cntE x.d.s + cntE x.d.m + x.d.l.length ≤ 2000 := hc; omega)
 obtain ⟨s3, hs3⟩ : ∃ s, s = putS st x 7 := ⟨_, rfl⟩
 rw [show (if rightDB x.d = true then diffS st x.d else none) = s3 from hs3.symm] at hcl
 obtain ⟨cs, hcs⟩ : ∃ y, y = dfC x.d := ⟨_, rfl⟩
 rw [← hcs] at hcl
 have HR := Lib.hid (And.intro (show W0.rangeAt w.heap.size 108 cs.toList by rw [hcs]; exact ht.d) (show (Tryz.prog.info? 40).map (·.size) = some cs.toList.length from by rw [hcs, Array.length_toList]; exact info_diff))
 have HC := Lib.hid hcl
 obtain ⟨tc, htc⟩ : ∃ t, t = thC x := ⟨_, rfl⟩
 rw [← htc] at HW ⊢
 rw [← hs3]
 clear hT0 hi h hx hc hT hw ht hcl hs3 hcs htc
 go_enter Tryz.func37, Tryz.ntmps37
 obtain ⟨p, hp⟩ : ∃ p, p = w.heap.size := ⟨_, rfl⟩
 go_upto_region 1 with fail
 rw [← hp]
 rw [← hp] at HR
 clear HW hp
 go_wp2_with (refine wpList_load_mid rfl 40 _ rfl p 108 rfl cs.toList _ HR.out.1 Tryz.underlying40 rfl HR.out.2 ?_)
 refine HC.out.mono ?_
 rintro e W2 hr2
 obtain ⟨rfl, hr2⟩ := hr2
 have HE := Lib.hid hr2
 clear hr2 HC
 go_wp2_with fail
 go_end0
 exact PutR.on HL.out ⟨rfl, HE.out⟩
end Go.Proofs.YtilbbemdinpjcaaGreat.P
