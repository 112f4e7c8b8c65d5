/-
  Two appends beside a copy, in whatever order: what is laid, and what it comes to.
-/
import Derived.Test.YtjngghihciimjaaVee
import Derived.Deep.Cut
namespace Go.Proofs.Ytjngghihciimjaa
set_option maxRecDepth 100000
open Go.RowKit Go.Sort Go.Maps

section
variable {P : Program} {ops : Array Oper} {Q : Exit → Act → World → Prop} {md : Region.Mode} {S : World → Prop}
theorem held_two {i j : Nat} {fuel : Nat} {listed : Array Bool} {a : Act} {w : World} (hr : Region.ready md ops listed = [i, j]) (l1 : Array Bool) (h1 : listed.setIfInBounds i true = l1) (l2 : Array Bool) (h2 : listed.setIfInBounds j true = l2)
    (k1 : wpOp P ops Q i (fun a' w' => S w' ∧ wpAnyH P md ops Q S fuel l1 a' w') a w) (k2 : wpOp P ops Q j (fun a' w' => S w' ∧ wpAnyH P md ops Q S fuel l2 a' w') a w) : wpAnyH P md ops Q S (fuel + 1) listed a w := by
  subst h1 h2
  refine ⟨fun e => (by rw [hr] at e; cases e), fun n hn => ?_⟩
  rw [hr] at hn
  rcases List.mem_cons.1 hn with rfl | hn
  · exact k1
  · obtain rfl := List.mem_singleton.1 hn
    exact k2
end
def SrcV (w : World) (bv : Value) (xs : List Va) : Prop := (bv = .slice none 0 0 ∧ xs = []) ∨ ∃ ad c, bv = .slice (some ad) xs.length c ∧ ∀ j u, (cellsF vaC xs)[j]? = some u → w.cell? (ad.add j) = some u
theorem rowV_src {w : World} {pa : Option Addr} {vs : List Va} {c : Nat} (h : RowV w pa vs) (hc : pa = none → c = 0) : SrcV w (.slice pa vs.length c) vs := by
  cases pa with
  | none =>
    have hn : vs = [] := by
      rcases Nat.eq_zero_or_pos vs.length with h0 | h0
      · exact List.eq_nil_of_length_eq_zero h0
      · obtain ⟨g, off, h1, -⟩ := h.2 h0
        cases h1
    subst hn
    rw [hc rfl]
    exact .inl ⟨rfl, rfl⟩
  | some ad =>
    refine .inr ⟨ad, c, rfl, fun j u hu => ?_⟩
    have h0 : 0 < vs.length := by
      have := (List.getElem?_eq_some_iff.1 hu).1
      rw [cellsF_len vaC 2 _ fun a _ => vaC_size a] at this
      omega
    obtain ⟨g, off, h1, h2, h3⟩ := h.2 h0
    cases h1
    exact cellsF_src vaC 2 (by decide) (fun a _ => vaC_size a) (fun i a ha => (h3 i a ha).1) j u hu
theorem one_own (w : World) (B : Nat) (hB : B ≤ w.heap.size) (m : Va) : OwnVs (w.alloc (.cells #[.int .i64 m.coin, .slice m.pa m.l.length m.c] 24)) B (.slice (some ⟨w.heap.size, 0, none⟩) 1 1) [m] :=
  ⟨rfl, .inr ⟨w.heap.size, 1, _, rfl, hB, Lies.new w #[.int .i64 m.coin, .slice m.pa m.l.length m.c] 24, Nat.le_refl _, by unfold maxLen; omega, rfl, rfl⟩⟩
theorem lies_src {w : World} {g : Nat} {m : Va} (h : Lies w g #[.int .i64 m.coin, .slice m.pa m.l.length m.c] 24) : SrcV w (.slice (some ⟨g, 0, none⟩) 1 1) [m] := .inr ⟨⟨g, 0, none⟩, 1, rfl, src_one vaC (a := m) h⟩
theorem append_V_run {w : World} (s x : Operand) (B : Nat) (v bv : Value) (ys xs : List Va) (hown : OwnVs w B v ys) (hsrc : SrcV w bv xs) (hlen : ys.length + xs.length ≤ 1000000) (hB : B ≤ w.heap.size) :
    ∃ v' w', (∀ (o : Oper) (a : Act), o.op = .call { callee := .builtin .append, args := #[s, x], argTypes := #[29, 29] } → a.eval s = v → a.eval x = bv → (execOp a.eval o).run Try.prog w = .ok (.value v') w') ∧ OwnVs w' B v' (ys ++ xs) ∧ w.grownBy w' v.ownBlock ∧ (v'.ownBlock = v.ownBlock ∨ v'.ownBlock = some w.heap.size) := by
  obtain ⟨i0, z0, hi0, hz0, hz1, hz2, hz3⟩ := info_parts info24
  have key : ∃ v' w', (∀ ty, (Builtin.append_ #[29, 29] ty #[v, bv]).run Try.prog w = .ok v' w') ∧ OwnVs w' B v' (ys ++ xs) ∧ w.grownBy w' v.ownBlock ∧ (v'.ownBlock = v.ownBlock ∨ v'.ownBlock = some w.heap.size) := by
    rcases hsrc with ⟨rfl, rfl⟩ | ⟨ad, c, rfl, hsrc⟩
    · refine ⟨v, w, fun ty => run_append_owned_none (P := Try.prog) (w := w) B 29 ty 24 i0 2 Try.underlying29 hi0 v ys.length _ hown, by rw [List.append_nil]; exact hown, ⟨rfl, rfl, rfl, Nat.le_refl _, fun _ _ _ => rfl⟩, .inl rfl⟩
    · have hall := fun ty => run_append_own_at (P := Try.prog) w B 29 ty 24 i0 z0 2 32 Try.underlying29 hi0 hz0 hz1 hz2 hz3 (by decide) v ys.length _ hown ad xs.length c (cellsF vaC xs) (cellsF_len vaC 2 _ fun a _ => vaC_size a) hsrc (cellsF_one vaC _ fun a _ => vaC_one a) (by unfold maxLen; omega) (by omega) hB
      obtain ⟨v', w', hr, h2, h3, _, h5⟩ := hall 0
      exact ⟨v', w', fun ty => hr, by unfold OwnVs; rw [List.length_append, cellsF_app]; exact h2, h3, h5⟩
  obtain ⟨v', w', hr, h2, h3, h5⟩ := key
  have hsl : ∃ a' n' c', v' = .slice a' n' c' := by
    rcases h2.2 with ⟨e, _⟩ | ⟨g, cap, cur, e, _⟩
    · exact ⟨_, _, _, e⟩
    · exact ⟨_, _, _, e⟩
  obtain ⟨a', n', c', rfl⟩ := hsl
  refine ⟨_, w', fun o a ho hs hx => ?_, h2, h3, h5⟩
  unfold execOp
  simp only [ho, resolve, invoke, builtin, Sem.run_bind, Sem.run_pure, Result.andThen_ok, List.map_toArray, List.map_cons, List.map_nil, hs, hx, hr]
theorem copies_ok {W W0 : World} {B : Nat} {s : Value} {us cs : List Va} (h : Copies W B s us cs) (ho : ∀ u, u ∈ us → VaOk W0 u) : ∀ u, u ∈ cs → VaOk W u := fun u hu => by
  have h1 : (u.coin, u.l) ∈ us.map fun v => (v.coin, v.l) := by rw [← h.same]; exact List.mem_map.2 ⟨u, hu, rfl⟩
  obtain ⟨v, hv, e⟩ := List.mem_map.1 h1
  simp only [Prod.mk.injEq] at e
  obtain ⟨g1, g2, g3⟩ := ho v hv
  obtain ⟨pa, c, e2, hr⟩ := (h.each u hu).row (by rw [← e.2]; exact g3.2.1) (by rw [← e.2]; exact g3.1)
  simp only [Value.slice.injEq] at e2
  obtain ⟨e3, _, _⟩ := e2
  exact ⟨by rw [← e.1]; exact g1, by rw [← e.1]; exact g2, by rw [e3]; exact hr⟩
/-- What both appends come to. -/
def Apps (W wx : World) (vs us : List Va) (m : Va) (p q : Value) : Prop := ∃ pp cp pq cq cs, ∃ L M : List Va, L = m :: vs ∧ M = cs ++ [m] ∧ p = .slice pp L.length cp ∧ RowV wx pp L ∧ (pp = none → cp = 0) ∧ q = .slice pq M.length cq ∧ RowV wx pq M ∧ (pq = none → cq = 0) ∧ cs.map (fun u => (u.coin, u.l)) = us.map (fun v => (v.coin, v.l)) ∧ Below W.heap.size W wx
theorem apps_fin {W wx w8 : World} {b9 : Nat} {pi pm po : Option Addr} {vs us cs : List Va} {ml : List As} {m : Va} {B C : Nat} {p q s : Value} (hE : ExIn W b9 pi vs pm ml po us m) (hb : Below W.heap.size W w8) (hp : OwnVs w8 B p (m :: vs)) (hc : Copies w8 C s us cs) (hC : W.heap.size ≤ C) (hne : p.ownBlock = none ∨ p.ownBlock ≠ s.ownBlock)
    (hq : OwnVs wx C q (cs ++ [m])) (hg : w8.grownBy wx s.ownBlock) (hv : vs.length ≤ 200) (hu : us.length ≤ 200) : Apps W wx vs us m p q := by
  have hbx : Below W.heap.size W wx := hb.grown hg hb.size (fun j hj => Nat.le_trans hC (hc.own.lt j hj).1)
  have hEx := hE.below hbx
  have hp2 : OwnVs wx B p (m :: vs) := hp.kept hg hne
  have hc2 : ∀ u, u ∈ cs → VaOk wx u := fun u hu2 => by
    have h1 : (u.coin, u.l) ∈ us.map fun v => (v.coin, v.l) := by rw [← hc.same]; exact List.mem_map.2 ⟨u, hu2, rfl⟩
    obtain ⟨v, hv2, e⟩ := List.mem_map.1 h1
    simp only [Prod.mk.injEq] at e
    obtain ⟨g1, g2, g3⟩ := hE.out.ok v hv2
    have ho : OwnAs wx C (.slice u.pa u.l.length u.c) u.l := World.ownsRow.kept (hc.each u hu2) hg (own_far (hc.each u hu2) hc.own)
    obtain ⟨pa, c, e2, hr⟩ := ho.row (by rw [← e.2]; exact g3.2.1) (by rw [← e.2]; exact g3.1)
    simp only [Value.slice.injEq] at e2
    exact ⟨by rw [← e.1]; exact g1, by rw [← e.1]; exact g2, by rw [e2.1]; exact hr⟩
  have hcl : cs.length = us.length := by
    have := congrArg List.length hc.same
    simpa using this
  obtain ⟨pp, cp, e1, r1, n1⟩ := hp2.rowC (fun a ha => by
    rcases List.mem_cons.1 ha with rfl | ha
    · exact hEx.more
    · exact hEx.vin.ok a ha) (by rw [List.length_cons]; unfold maxLen; omega)
  obtain ⟨pq, cq, e2, r2, n2⟩ := hq.rowC (fun a ha => by
    rcases List.mem_append.1 ha with ha | ha
    · exact hc2 a ha
    · rw [List.mem_singleton] at ha; rw [ha]; exact hEx.more) (by rw [List.length_append, hcl]; unfold maxLen; simp; omega)
  exact ⟨pp, cp, pq, cq, cs, _, _, rfl, rfl, e1, r1, n1, e2, r2, n2, hc.same, hbx⟩
theorem own_older {W W' : World} {B : Nat} {p s : Value} {vs us : List Va} (h : OwnVs W B p vs) (k : OwnVs W' W.heap.size s us) : p.ownBlock = none ∨ p.ownBlock ≠ s.ownBlock := by
  cases hp : p.ownBlock with
  | none => exact .inl rfl
  | some g =>
    right
    intro e
    have h1 := (h.lt g hp).2
    have h2 := (k.lt g e.symm).1
    omega
theorem ret_copy {f : Nat} {args : Array Value} {w : World} {us : List Va} (h : Calls Try.prog f args w fun e w' => (∃ s, e = .returned s ∧ ∃ cs, Copies w' w.heap.size s us cs) ∧ Below w.heap.size w w') : Calls Try.prog f args w fun e w' => ∃ v, e = .returned v ∧ ((∃ cs, Copies w' w.heap.size v us cs) ∧ Below w.heap.size w w') :=
  h.mono fun _ _ hh => by
    obtain ⟨⟨s, h1, h2⟩, h3⟩ := hh
    exact ⟨s, h1, h2, h3⟩
/-- The first append. -/
theorem app_one (w : World) (B g : Nat) (pi : Option Addr) (vs : List Va) (ci : Nat) (m : Va) (ho : OwnVs w B (.slice (some ⟨g, 0, none⟩) 1 1) [m]) (hs : SrcV w (.slice pi vs.length ci) vs) (hl : vs.length ≤ 1000) (hB : B ≤ w.heap.size) :
    ∃ v' w', (∀ (o : Oper) (a : Act), o.op = .call { callee := .builtin .append, args := #[.tmp 149, .tmp 150], argTypes := #[29, 29] } → a.eval (.tmp 149) = .slice (some ⟨g, 0, none⟩) 1 1 → a.eval (.tmp 150) = .slice pi vs.length ci → (execOp a.eval o).run Try.prog w = .ok (.value v') w') ∧ OwnVs w' B v' (m :: vs) ∧ w.grownBy w' (Value.slice (some ⟨g, 0, none⟩) 1 1).ownBlock ∧ (v'.ownBlock = some g ∨ v'.ownBlock = some w.heap.size) :=
  append_V_run (.tmp 149) (.tmp 150) B _ _ [m] vs ho hs (by show 1 + vs.length ≤ 1000000; omega) hB
theorem app_last (w : World) (B : Nat) (s : Value) (cs : List Va) (g : Nat) (m : Va) (ho : OwnVs w B s cs) (hs : Lies w g #[.int .i64 m.coin, .slice m.pa m.l.length m.c] 24) (hl : cs.length ≤ 1000) (hB : B ≤ w.heap.size) :
    ∃ v' w', (∀ (o : Oper) (a : Act), o.op = .call { callee := .builtin .append, args := #[.tmp 153, .tmp 155], argTypes := #[29, 29] } → a.eval (.tmp 153) = s → a.eval (.tmp 155) = .slice (some ⟨g, 0, none⟩) 1 1 → (execOp a.eval o).run Try.prog w = .ok (.value v') w') ∧ OwnVs w' B v' (cs ++ [m]) ∧ w.grownBy w' s.ownBlock ∧ (v'.ownBlock = s.ownBlock ∨ v'.ownBlock = some w.heap.size) :=
  append_V_run (.tmp 153) (.tmp 155) B _ _ cs [m] ho (lies_src hs) (by show cs.length + 1 ≤ 1000000; omega) hB
theorem few_same {us cs : List Va} (h : cs.map (fun u => (u.coin, u.l)) = us.map fun v => (v.coin, v.l)) (hf : FewV us) : FewV cs := ⟨by
  have := congrArg List.length h
  simp only [List.length_map] at this
  rw [this]; exact hf.1, fun u hu => by
  have h1 : (u.coin, u.l) ∈ us.map fun v => (v.coin, v.l) := by rw [← h]; exact List.mem_map.2 ⟨u, hu, rfl⟩
  obtain ⟨v, hv, e⟩ := List.mem_map.1 h1
  simp only [Prod.mk.injEq] at e
  rw [← e.2]
  exact hf.2 v hv⟩
theorem same_len {us cs : List Va} (h : cs.map (fun u => (u.coin, u.l)) = us.map fun v => (v.coin, v.l)) : cs.length = us.length := by
  have := congrArg List.length h
  simpa only [List.length_map] using this
/-- The same on both sides. -/
theorem bal_self (w : World) (pi : Option Addr) (vs : List Va) (ci : Nat) (hv : RowV w pi vs) (hci : pi = none → ci = 0) (hf : FewV vs) (hl : vs.length ≤ 200) :
    Calls Try.prog 17 #[.slice pi vs.length ci, .slice none 0 0, .slice pi vs.length ci, .int .i64 0] w fun e w' => e = .returned (.bool true) ∧ Below w.heap.size w w' := by
  have hf2 : FewV (vs ++ [(⟨0, none, [], 0⟩ : Va)]) := hf.app (FewV.one (v := ⟨0, none, [], 0⟩) few_nil) (by show vs.length + 1 ≤ 1000; omega)
  refine (bal_few w pi vs ci none [] 0 pi vs ci 0 hv (row_nil _) hv (by omega) (by omega) hci hci hf2 hf2).mono fun e w' hh => ?_
  obtain ⟨⟨ok, rfl, hk⟩, hb⟩ := hh
  rw [hk.2 ⟨rfl, fun _ => rfl⟩]
  exact ⟨rfl, hb⟩
/-- What is minted alone may come out. -/
theorem bal_mint (w : World) (m : Va) (hm : Row w m.pa m.l) (hf : FewA m.l) :
    Calls Try.prog 17 #[.slice none 0 0, .slice m.pa m.l.length m.c, .slice (some ⟨w.heap.size, 0, none⟩) 1 1, .int .i64 0] (w.alloc (.cells #[.int .i64 0, .slice m.pa m.l.length m.c] 24)) fun e w' => e = .returned (.bool true) ∧ Below w.heap.size w w' := by
  have hb0 : Below w.heap.size w (w.alloc (.cells #[.int .i64 0, .slice m.pa m.l.length m.c] 24)) := (Below.refl _ _).alloc (Nat.le_refl _) _
  have hr := one_row_v w ⟨0, m.pa, m.l, m.c⟩ ⟨show (-9223372036854775808 : Int) ≤ 0 by omega, show (0 : Int) < 9223372036854775808 by omega, hm⟩
  have h1 : FewV ([] ++ [(⟨0, m.pa, m.l, m.c⟩ : Va)]) := FewV.one (v := ⟨0, m.pa, m.l, m.c⟩) hf
  have h2 : FewV ([(⟨0, m.pa, m.l, m.c⟩ : Va)] ++ [(⟨0, none, [], 0⟩ : Va)]) := (FewV.one (v := ⟨0, m.pa, m.l, m.c⟩) hf).app (FewV.one (v := ⟨0, none, [], 0⟩) few_nil) (show 1 + 1 ≤ 1000 by decide)
  refine (bal_few _ none [] 0 m.pa m.l m.c (some ⟨w.heap.size, 0, none⟩) [⟨0, m.pa, m.l, m.c⟩] 1 0 ⟨Nat.zero_le _, fun h => absurd h (by simp)⟩ (hm.below hb0 (Nat.le_refl _)) hr (by omega) (by omega) (fun _ => rfl) (fun e => by cases e) h1 h2).mono fun e w' hh => ?_
  obtain ⟨⟨ok, rfl, hk⟩, hb⟩ := hh
  have hz : Cw ⟨0, none, [], 0⟩ = 0 := wide_zero
  have hy : Cw ⟨0, m.pa, m.l, m.c⟩ = 0 := wide_zero
  rw [hk.2 ⟨by rw [List.nil_append, coin_one, coinS_app, coin_one, coin_one, hz, hy, add_z], fun n => by
    rw [List.nil_append, ctsL_app, cts_one, cts_one, sumAt_append]
    have : sumAt (ctsOf ⟨0, none, [], 0⟩) n = 0 := rfl
    rw [this, add_z]⟩]
  exact ⟨rfl, hb0.trans (hb.mono hb0.size)⟩
end Go.Proofs.Ytjngghihciimjaa
