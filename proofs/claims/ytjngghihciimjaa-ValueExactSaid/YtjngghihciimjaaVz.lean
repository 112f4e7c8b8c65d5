/-
  The sums of bundles: contributions, a world on the way (the walk of Sums is not done: see XVz.walk.txt).
-/
import Derived.Test.YtjngghihciimjaaVy
namespace Go.Proofs.Ytjngghihciimjaa
set_option maxRecDepth 100000
open Go.RowKit Go.Sort Go.Maps

/-- What a bundle, what bundles have of each name. -/
def ctsOf (v : Va) : List Ct := v.l.map fun a => (a.nm, wide a.amt)
def ctsL (vs : List Va) : List Ct := vs.flatMap ctsOf
def coinS (vs : List Va) : BitVec 128 := sumL (vs.map fun v => wide v.coin)
theorem addAt_sumAt (L : List Ct) (n : Nm) (x : BitVec 128) : addAt (sumAt L) n x = sumAt (L ++ [(n, x)]) := by
  funext m
  rw [sumAt_append]
  unfold addAt
  by_cases h : m = n
  · subst h
    simp [sumAt]
  · rw [if_neg h]
    have : ¬ n = m := fun e => h e.symm
    simp [sumAt, this]
theorem ctsL_take {vs : List Va} {k : Nat} {v : Va} (h : vs[k]? = some v) : ctsL (vs.take (k + 1)) = ctsL (vs.take k) ++ ctsOf v := by
  unfold ctsL
  rw [List.take_add_one, h, List.flatMap_append]
  simp
theorem ctsOf_take {v : Va} {j : Nat} {a : As} (h : v.l[j]? = some a) : (ctsOf v).take (j + 1) = (ctsOf v).take j ++ [(a.nm, wide a.amt)] := by
  unfold ctsOf
  rw [List.take_add_one, List.getElem?_map, h]
  rfl
theorem coinS_take {vs : List Va} {k : Nat} {v : Va} (h : vs[k]? = some v) : coinS (vs.take (k + 1)) = coinS (vs.take k) + wide v.coin := by
  unfold coinS
  rw [List.take_add_one, h, List.map_append]
  unfold sumL
  rw [List.foldl_append]
  rfl
theorem ctsL_le {vs : List Va} {k : Nat} {v : Va} {j : Nat} (h : vs[k]? = some v) (hj : j ≤ v.l.length) : (ctsL (vs.take k) ++ (ctsOf v).take j).length ≤ (ctsL vs).length := by
  have h1 : ctsL vs = ctsL (vs.take (k + 1)) ++ ctsL (vs.drop (k + 1)) := by
    unfold ctsL
    rw [← List.flatMap_append, List.take_append_drop]
  rw [h1, ctsL_take h]
  simp [ctsOf]
  omega
/-- A row that is new. -/
def Fresh (B : Nat) (pa : Option Addr) : Prop := ∀ a, pa = some a → B ≤ a.block
/-- The totals of f, in a row. -/
def TotRes (f : Nm → BitVec 128) (W : World) (e : Ending) (w' : World) : Prop := ∃ pa l c, e = .returned (.slice pa l.length c) ∧ RowT w' pa l ∧ IsTot f (l.map fun t => (t.nm, t.w)) ∧ Below W.heap.size W w' ∧ Fresh W.heap.size pa
/-- What sums.totals gives (to be shown; Sums is walked under it). -/
def TotalsAt : Prop := ∀ (W : World) (b n : Nat) (D : DataW Unit) (f : Nm → BitVec 128), W.ownsMap Try.prog 68 rdW b n D → HoldsF D f → n ≤ 1000000 → (∀ m : Nm, f m ≠ 0 → m.1.length = 32 ∧ m.2.length ≤ 281474976710656) → Calls Try.prog 34 #[.map (some b)] W (TotRes f W)
/-- A world on the way: the old memory, the result's cell, the map, the sum of the numbers. -/
structure OnWay (w W : World) (s : BitVec 128) (L : List Ct) : Prop where
  below : Below w.heap.size w W
  res : Lies W w.heap.size #[.int .i64 0, .int .u64 0] 39
  map : ∃ D, W.ownsMap Try.prog 68 rdW (w.heap.size + 1) L.length D ∧ HoldsF D (sumAt L)
  sum : Lies W (w.heap.size + 1 + 1) (wC s) 39
theorem plus_two (w : World) (g : Nat) (s x : BitVec 128) (hl : Lies w g #[.int .i64 (hiS s), .int .u64 (loN s), .int .i64 (hiS x), .int .u64 (loN x)] 39) :
    Calls Try.prog 14 #[.slice (some ⟨g, 0, none⟩) 2 2] w fun e w' => e = .returned (wv (s + x)) ∧ Below w.heap.size w w' := by
  have hhas : HasW w g 0 [s, x] := fun i y hy j v hv => by
    have hr := range_lies hl
    have hi : i = 0 ∨ i = 1 := by have := (List.getElem?_eq_some_iff.1 hy).1; simp at this; omega
    have hj : j < 2 := (List.getElem?_eq_some_iff.1 hv).1
    rcases hi with rfl | rfl
    · simp only [List.getElem?_cons_zero, Option.some.injEq] at hy
      subst hy
      have := hr j v (by
        have hj' : j = 0 ∨ j = 1 := by omega
        rcases hj' with rfl | rfl <;> exact hv)
      simpa using this
    · simp only [List.getElem?_cons_succ, List.getElem?_cons_zero, Option.some.injEq] at hy
      subst hy
      have := hr (2 + j) v (by
        have hj' : j = 0 ∨ j = 1 := by omega
        rcases hj' with rfl | rfl <;> exact hv)
      simpa using this
  have hplus := plus_any w g 0 2 [s, x] (show 2 ≤ maxLen by decide) hl.lt hhas
  rw [show sumL [s, x] = s + x by simp [sumL]] at hplus
  exact hplus
theorem OnWay.sumTo {w W : World} {s : BitVec 128} {L : List Ct} (h : OnWay w W s L) (x : BitVec 128) : OnWay w (W.setRow (w.heap.size + 1 + 1) (wC x)) x L := by
  obtain ⟨D, h1, h2⟩ := h.map
  exact ⟨below_setRow h.below _ _ (by omega), h.res.setRowOther _ _ (by omega), ⟨D, h1.kept (row := some (w.heap.size + 1 + 1)) ⟨rfl, rfl, rfl, by simp, fun k _ hk => setRow_other W _ k _ (fun e => hk (by rw [e]))⟩ (by simp), h2⟩, h.sum.setRow _⟩
theorem wpOp_storeRow {P : Program} {ops : Array Oper} {Q : Exit → Act → World → Prop} {i : Nat} {o : Oper} {a : Act} {w : World} {K : Act → World → Prop} (hi : ops[i]? = some o) (hgd : o.guard = none) (ty : TypeId) (x y : Operand) (ho : o.op = .store ty x y)
    (g : Nat) (cells : Array Value) (hx : a.eval x = .pointer (some ⟨g, 0, none⟩)) (hy : a.eval y = .agg cells) (t : TypeId) (old : Array Value) (hg : w.heap[g]? = some (.cells old t (0, 0))) (hs : (P.info? ty).map (·.size) = some cells.size)
    (hold : old.size = cells.size) (h1 : cells.all (·.oneCell') = true) (h : K (a.put o.dst undef) (w.setRow g cells)) : wpOp P ops Q i K a w :=
  wpOp_wp hi hgd (wp_store_row ty x y ho g cells hx hy t old hg hs hold h1 h)
theorem sumAt_mem : ∀ {L : List Ct} {m : Nm}, sumAt L m ≠ 0 → ∃ p, p ∈ L ∧ p.1 = m
  | [], m, h => absurd rfl h
  | p :: L, m, h => by
    by_cases e : p.1 = m
    · exact ⟨p, by simp, e⟩
    · have h2 : sumAt L m ≠ 0 := fun e2 => h (by simp [sumAt, e, e2])
      obtain ⟨q, hq, e3⟩ := sumAt_mem h2
      exact ⟨q, by simp [hq], e3⟩
theorem results_row_tmp {P : Program} {fn : Func} {p u : Tmp} {ty : TypeId} (h : fn.results = #[.cell p ty, .tmp u]) (tmps : Array Value) (w : World) (g : Nat) (t : TypeId) (cs : Array Value) (fr : Nat × Nat) (d : TypeDesc)
    (hp : tmps.getD p undef = .pointer (some ⟨g, 0, none⟩)) (hg : w.heap[g]? = some (.cells cs t fr))
    (hu : P.underlying ty = some d) (hd : (match d with | .struct _ | .array _ _ => true | _ => false) = true) (hi : (P.info? ty).map (·.size) = some cs.size) :
    (results fn tmps).run P w = .ok (.tuple #[.agg cs, tmps.getD u undef]) w := by
  have hp' : tmps[p]?.getD undef = .pointer (some ⟨g, 0, none⟩) := by simpa using hp
  simp [results, h, hp', asAddr, run_loadVar_row w g t ty cs fr d hg hu hd hi]
theorem HoldsF.none : HoldsF (.map []) (sumAt []) := fun _ _ _ => rfl
theorem OnWay.step {w W W' : World} {s : BitVec 128} {L : List Ct} (h : OnWay w W s L) (hb : Below W.heap.size W W') : OnWay w W' s L := by
  obtain ⟨D, h1, h2⟩ := h.map
  exact ⟨h.below.trans (hb.mono h.below.size), h.res.below hb h.res.lt, ⟨D, h1.kept (grown_of (r := none) hb) (by simp), h2⟩, h.sum.below hb h.sum.lt⟩
theorem OnWay.put {w W W' : World} {s : BitVec 128} {L : List Ct} (h : OnWay w W s L) {D : DataW Unit} (hf : HoldsF D (sumAt L)) (hD : IsMap D) (n : Nm) (x : BitVec 128) (hn : n.1.length = 32) (ht : n.2.length ≤ maxLen)
    (hp : PutW W W' (w.heap.size + 1) (L.length + 1) (D.put (kN n) (dW (sumAt L n + x)))) : OnWay w W' s (L ++ [(n, x)]) := by
  obtain ⟨h1, h2⟩ := hp
  have hb : Below w.heap.size W W' := ⟨h2.os, h2.tape, h2.output, h2.size, fun i hi => h2.block i (Nat.lt_of_lt_of_le hi h.below.size) (by simp; omega)⟩
  refine ⟨h.below.trans hb, (h2.block _ h.res.lt (by simp)).trans h.res, ⟨D.put (kN n) (dW (sumAt L n + x)), ?_, ?_⟩, (h2.block _ h.sum.lt (by simp)).trans h.sum⟩
  · rw [List.length_append]; exact h1
  · rw [← addAt_sumAt]; exact hf.put hD n x hn ht
def SumsRes (vs : List Va) (w' : World) (e : Ending) : Prop := ∃ p l c', e = .returned (.tuple #[wv (coinS vs), .slice p l.length c']) ∧ RowT w' p l ∧ IsTot (sumAt (ctsL vs)) (l.map fun t => (t.nm, t.w))
/-- The same, the row being new. -/
def SumsResF (vs : List Va) (B : Nat) (w' : World) (e : Ending) : Prop := ∃ p l c', e = .returned (.tuple #[wv (coinS vs), .slice p l.length c']) ∧ RowT w' p l ∧ IsTot (sumAt (ctsL vs)) (l.map fun t => (t.nm, t.w)) ∧ Fresh B p
end Go.Proofs.Ytjngghihciimjaa
