/-
  Rows of assets, bundles and totals that are written out: what lies in memory behind a literal.
-/
import Derived.Test.YtjngghihciimjaaGreatJSw
import Derived.Test.YtjngghihciimjaaGreatJLt
import Derived.Test.YtjngghihciimjaaGreatJWd
namespace Go.Proofs.YtjngghihciimjaaGreat
set_option maxRecDepth 100000
open Go.RowKit Go.Sort Go.Maps
theorem run_sliceN {P : Program} (w : World) (t e : TypeId) (k b n : Nat) (css : List (Array Value)) (hu : P.underlying t = some (.slice e)) (hi : (P.info? e).map (fun i => (i.zero.map (·.cells.size), i.size, i.bytes)) = some (some k, k, b)) (hk : 0 < k) (hk2 : k * n ≤ 1000) (hn : css.length = n) (hn0 : 0 < n) (hc : ∀ c, c ∈ css → c.size = k) :
  (Instr.buildSlice t n ((css.zipIdx 0).map fun x => (x.2, Value.agg x.1)).toArray).run P w = .ok (.slice (some ⟨w.heap.size, 0, none⟩) n n) (w.alloc (.cells (css.flatMap fun c => c.toList).toArray e)) := by
 obtain ⟨i, z, h1, h2, h3, h4, h5⟩ := info_parts hi
 have hkn : n * k ≤ 1000 := by rw [Nat.mul_comm]; exact hk2
 have hpos : 0 < n * k := Nat.mul_pos hn0 hk
 refine run_buildSlice w t e n _ _ i z hu h1 h2 (by rw [h3]; omega) (by rw [h3]; omega) ?_
 rw [h3]
 have h := Great.fill_whole hk (css.map Value.agg) ((Array.range (n * k)).map (z.cells[· % z.cells.size]!)) (by intro v hv; obtain ⟨c, hc1, rfl⟩ := List.mem_map.1 hv; simpa [Value.cells] using hc c hc1) (by simp [hn])
 have e1 : ((css.map Value.agg).zipIdx 0).map (fun x => (x.2, x.1)) = (css.zipIdx 0).map fun x => (x.2, Value.agg x.1) := by
  rw [List.zipIdx_map]; simp [List.map_map, Function.comp_def]
 have e2 : ((css.map Value.agg).flatMap fun v => v.cells.toList) = css.flatMap fun c => c.toList := by
  rw [List.flatMap_map]; rfl
 rw [e1, e2] at h
 simpa using h
theorem rowA_of {W : World} {g : Nat} {cs : Array Value} {l : List As} {t : TypeId} (hl : Lies W g cs t) (hc : cs.toList = cellsF asC l) (hok : ∀ a, a ∈ l → AsOk a) (hlen : l.length ≤ maxLen) : Row W (some ⟨g, 0, none⟩) l :=
 ⟨hlen, hok, fun _ => ⟨g, 0, rfl, hl.lt, fun i a hi j x hj => by
  have hs : ∀ a, a ∈ l → (asC a).size = 34 := fun a ha => asC_size a (hok a ha).1
  have hj2 : j < 34 := by
   have := (List.getElem?_eq_some_iff.1 hj).1
   rwa [Array.length_toList, hs a (List.mem_of_getElem? hi)] at this
  have h1 := cellsF_get asC 34 l hs i a hi j hj2
  rw [Array.getElem?_toList] at hj
  rw [hj, ← hc, Array.getElem?_toList] at h1
  rw [Nat.zero_add]
  exact hl.cell (i * 34 + j) h1⟩⟩
theorem rowT_of {W : World} {g off : Nat} {cs : Array Value} {l : List To} {t : TypeId} (hl : Lies W g cs t) (hc : ∀ i a, l[i]? = some a → ∀ j x, (toC a)[j]? = some x → cs[off + i * 35 + j]? = some x) (hok : ∀ a, a ∈ l → ToOk a) (hlen : l.length ≤ maxLen) : RowT W (some ⟨g, off, none⟩) l :=
 ⟨hlen, hok, fun _ => ⟨g, off, rfl, hl.lt, fun i a hi j x hj => by
  rw [Array.getElem?_toList] at hj
  exact hl.cell _ (hc i a hi j x hj)⟩⟩
structure LitV (W : World) (v : Va) : Prop where
 lo : -9223372036854775808 ≤ v.coin
 hi : v.coin < 9223372036854775808
 ok : ∀ a, a ∈ v.l → AsOk a
 len : v.l.length ≤ 2
 lies : (v.pa = none ∧ v.l = [] ∧ v.c = 0) ∨ ∃ g cs, v.pa = some ⟨g, 0, none⟩ ∧ Lies W g cs 38 ∧ cs.toList = cellsF asC v.l
theorem LitV.vaOk {W : World} {v : Va} (h : LitV W v) : VaOk W v := ⟨h.lo, h.hi, by
 rcases h.lies with ⟨h1, h2, _⟩ | ⟨g, cs, h1, h2, h3⟩
 ·
  rw [h1, h2]; exact row_nil W
 ·
  rw [h1]; exact rowA_of h2 h3 h.ok (Nat.le_trans h.len (by decide))⟩
theorem LitV.room {W : World} {v : Va} (h : LitV W v) : Room v := fun e => by
 rcases h.lies with ⟨_, _, h3⟩ | ⟨g, cs, h1, _⟩
 ·
  exact h3
 ·
  rw [h1] at e; cases e
theorem LitV.below {W U : World} {v : Va} (h : LitV W v) (hb : Below W.heap.size W U) : LitV U v := ⟨h.lo, h.hi, h.ok, h.len, by
 rcases h.lies with h1 | ⟨g, cs, h1, h2, h3⟩
 ·
  exact .inl h1
 ·
  exact .inr ⟨g, cs, h1, h2.below hb h2.lt, h3⟩⟩
theorem LitV.kept {W U : World} {v : Va} {B : Nat} {s : Value} {vs : List Va} (h : LitV W v) (k : OwnVs W B s vs) (hg : W.grownBy U s.ownBlock) : LitV U v := ⟨h.lo, h.hi, h.ok, h.len, by
 rcases h.lies with h1 | ⟨g, cs, h1, h2, h3⟩
 ·
  exact .inl h1
 ·
  refine .inr ⟨g, cs, h1, ?_, h3⟩
  refine (hg.block g h2.lt fun e => ?_).trans h2
  rcases k.2 with ⟨k1, _⟩ | ⟨g', cap', cur', k1, _, k3, _⟩
  ·
   rw [k1] at e; cases e
  ·
   rw [k1] at e
   have e2 : g = g' := Option.some.inj e
   subst e2
   rw [h2] at k3
   simp only [Option.some.injEq, Obj.cells.injEq] at k3
   exact absurd k3.2.1 (by decide)⟩
structure LW (B : Nat) (W : World) (s : Value) (vs : List Va) : Prop where
 own : OwnVs W B s vs
 each : ∀ v, v ∈ vs → LitV W v
theorem LW.below {B : Nat} {W U : World} {s : Value} {vs : List Va} (h : LW B W s vs) (hb : Below W.heap.size W U) : LW B U s vs := ⟨ownsRow_below h.own hb, fun v hv => (h.each v hv).below hb⟩
theorem LW.more {B : Nat} {W U : World} {s s' : Value} {vs us : List Va} (h : LW B W s vs) (hn : ∀ v, v ∈ us → LitV W v) (ho : OwnVs U B s' (vs ++ us)) (hg : W.grownBy U s.ownBlock) : LW B U s' (vs ++ us) := ⟨ho, fun v hv => by
 rcases List.mem_append.1 hv with hv | hv
 ·
  exact (h.each v hv).kept h.own hg
 ·
  exact (hn v hv).kept h.own hg⟩
theorem LW.row {B : Nat} {W : World} {s : Value} {vs : List Va} (h : LW B W s vs) (hl : vs.length ≤ maxLen) : ∃ p c, s = .slice p vs.length c ∧ RowV W p vs ∧ (p = none → c = 0) := by
 obtain ⟨p, c, h1, h2⟩ := OwnVs.row h.own (fun v hv => (h.each v hv).vaOk) hl
 refine ⟨p, c, h1, h2, fun e => ?_⟩
 subst e
 rcases h.own.2 with ⟨k1, _⟩ | ⟨g, cap, cur, k1, _⟩
 ·
  rw [h1] at k1
  simp only [Value.slice.injEq, true_and] at k1
  exact k1.2
 ·
  rw [h1] at k1; cases k1
theorem LW.form {B : Nat} {W : World} {s : Value} {vs : List Va} (h : LW B W s vs) (h0 : 0 < vs.length) (hl : vs.length ≤ maxLen) : ∃ g c, s = .slice (some ⟨g, 0, none⟩) vs.length c ∧ vs.length ≤ c ∧ c ≤ maxLen ∧ g < W.heap.size ∧ RowV W (some ⟨g, 0, none⟩) vs := by
 obtain ⟨p, c, h1, h2, -⟩ := h.row hl
 rcases h.own.2 with ⟨_, k1⟩ | ⟨g, cap, cur, k1, _, k3, k4, k5, _⟩
 ·
  omega
 ·
  rw [h1] at k1
  simp only [Value.slice.injEq, true_and] at k1
  obtain ⟨rfl, rfl⟩ := k1
  exact ⟨g, c, h1, k4, k5, (Array.getElem?_eq_some_iff.1 k3).1, h2⟩
theorem append_V_runZ {w : World} (s x : Operand) (B : Nat) (v bv : Value) (ys xs : List Va) (hown : OwnVs w B v ys) (hsrc : SrcV w bv xs) (hlen : ys.length + xs.length ≤ 1000000) (hB : B ≤ w.heap.size) :
  ∃ v' w', (∀ (o : Oper) (a : Act), o.op = .call { callee := .builtin .append, args := #[s, x], argTypes := #[28, 28] } → a.eval s = v → a.eval x = bv → (execOp a.eval o).run Tryz.prog w = .ok (.value v') w') ∧ OwnVs w' B v' (ys ++ xs) ∧ w.grownBy w' v.ownBlock := by
 obtain ⟨i0, z0, hi0, hz0, hz1, hz2, hz3⟩ := info_parts info24
 have key : ∃ v' w', (∀ ty, (Builtin.append_ #[28, 28] ty #[v, bv]).run Tryz.prog w = .ok v' w') ∧ OwnVs w' B v' (ys ++ xs) ∧ w.grownBy w' v.ownBlock := by
  rcases hsrc with ⟨rfl, rfl⟩ | ⟨ad, c, rfl, hsrc⟩
  ·
   refine ⟨v, w, fun ty => run_append_owned_none (P := Tryz.prog) (w := w) B 28 ty 24 i0 2 Tryz.underlying28 hi0 v ys.length _ hown, by rw [List.append_nil]; exact hown, ⟨rfl, rfl, rfl, Nat.le_refl _, fun _ _ _ => rfl⟩⟩
  ·
   have hall := fun ty => run_append_own_at (P := Tryz.prog) w B 28 ty 24 i0 z0 2 32 Tryz.underlying28 hi0 hz0 hz1 hz2 hz3 (by decide) v ys.length _ hown ad xs.length c (cellsF vaC xs) (cellsF_len vaC 2 _ fun a _ => vaC_size a) hsrc (cellsF_one vaC _ fun a _ => vaC_one a) (by unfold maxLen; omega) (by omega) hB
   obtain ⟨v', w', hr, h2, h3, _, h5⟩ := hall 0
   exact ⟨v', w', fun ty => hr, by unfold OwnVs; rw [List.length_append, cellsF_app]; exact h2, h3⟩
 obtain ⟨v', w', hr, h2, h3⟩ := key
 have hsl : ∃ a' n' c', v' = .slice a' n' c' := by
  rcases h2.2 with ⟨e, _⟩ | ⟨g, cap, cur, e, _⟩
  ·
   exact ⟨_, _, _, e⟩
  ·
   exact ⟨_, _, _, e⟩
 obtain ⟨a', n', c', rfl⟩ := hsl
 refine ⟨_, w', fun o a ho hs hx => ?_, h2, h3⟩
 unfold execOp
 simp only [ho, resolve, invoke, builtin, Sem.run_bind, Sem.run_pure, Result.andThen_ok, List.map_toArray, List.map_cons, List.map_nil, hs, hx, hr]
theorem lies_srcV {w : World} {g n : Nat} {cs : Array Value} {us : List Va} {t : TypeId} (h : Lies w g cs t) (hc : cs.toList = cellsF vaC us) (hn : us.length = n) (hn0 : 0 < n) : SrcV w (.slice (some ⟨g, 0, none⟩) n n) us := by
 subst hn
 refine .inr ⟨⟨g, 0, none⟩, us.length, rfl, fun j u hu => ?_⟩
 rw [← hc, Array.getElem?_toList] at hu
 have e : (⟨g, 0, none⟩ : Addr).add j = ⟨g, j, none⟩ := by cases j <;> simp [Addr.add]
 rw [e]; exact h.cell j hu
theorem RowV.part {W : World} {g off : Nat} {vs : List Va} (h : RowV W (some ⟨g, off, none⟩) vs) {i : Nat} {v : Va} (hi : vs[i]? = some v) : RowV W (some ⟨g, off + i * 2, none⟩) [v] := by
 have h0 : 0 < vs.length := Nat.lt_of_le_of_lt (Nat.zero_le _) (List.getElem?_eq_some_iff.1 hi).1
 obtain ⟨g', off', e, h2, h3⟩ := h.2 h0
 cases e
 refine ⟨by show 1 ≤ maxLen; decide, fun _ => ⟨g, off + i * 2, rfl, h2, fun j u hj => ?_⟩⟩
 have hj0 : j = 0 := by have := (List.getElem?_eq_some_iff.1 hj).1; simpa using this
 subst hj0
 obtain rfl : v = u := by simpa using hj
 rw [Nat.zero_mul, Nat.add_zero]
 exact h3 i v hi
theorem row2V {W : World} {a b : Va} {g : Nat} {t : TypeId} (hl : Lies W g #[.int .i64 a.coin, .slice a.pa a.l.length a.c, .int .i64 b.coin, .slice b.pa b.l.length b.c] t) (ha : VaOk W a) (hb : VaOk W b) : RowV W (some ⟨g, 0, none⟩) [a, b] :=
 rowV_of hl (by rfl) (fun v hv => by
  rcases List.mem_cons.1 hv with rfl | hv
  ·
   exact ha
  ·
   rw [List.mem_singleton.1 hv]; exact hb) (show 2 ≤ maxLen by decide)
theorem row3V {W : World} {a b d : Va} {g : Nat} {t : TypeId} (hl : Lies W g #[.int .i64 a.coin, .slice a.pa a.l.length a.c, .int .i64 b.coin, .slice b.pa b.l.length b.c, .int .i64 d.coin, .slice d.pa d.l.length d.c] t) (ha : VaOk W a) (hb : VaOk W b) (hd : VaOk W d) : RowV W (some ⟨g, 0, none⟩) [a, b, d] :=
 rowV_of hl (by rfl) (fun v hv => by
  simp only [List.mem_cons, List.not_mem_nil, or_false] at hv
  rcases hv with rfl | rfl | rfl
  ·
   exact ha
  ·
   exact hb
  ·
   exact hd) (show 3 ≤ maxLen by decide)
theorem room2 {a b : Va} (ha : Room a) (hb : Room b) : ∀ v, v ∈ [a, b] → Room v := fun v hv => by
 rcases List.mem_cons.1 hv with rfl | hv
 ·
  exact ha
 ·
  rw [List.mem_singleton.1 hv]; exact hb
theorem row0V (W : World) : RowV W none [] := ⟨Nat.zero_le _, fun h => absurd h (by simp)⟩
theorem sums_two (U : World) (a b m : Va) (x : Int) (ha : VaOk U a) (hb : VaOk U b) (hm : VaOk U m) (ra : Room a) (rb : Room b) (rm : Room m) (f0 : -9223372036854775808 ≤ x) (f1 : x < 9223372036854775808) :
  Calls Tryz.prog 4 #[.slice (some ⟨U.heap.size, 0, none⟩) 2 2, .slice m.pa m.l.length m.c, .slice (some ⟨U.heap.size + 1, 0, none⟩) 2 2, .int .i64 x] ((U.alloc (.cells #[.int .i64 a.coin, .slice a.pa a.l.length a.c, .int .i64 b.coin, .slice b.pa b.l.length b.c] 24)).alloc (.cells #[.int .i64 b.coin, .slice b.pa b.l.length b.c, .int .i64 a.coin, .slice a.pa a.l.length a.c] 24)) fun e w' => e = .returned (.bool true) ∧ Below U.heap.size U w' := by
 have hb1 : Below U.heap.size U ((U.alloc (.cells #[.int .i64 a.coin, .slice a.pa a.l.length a.c, .int .i64 b.coin, .slice b.pa b.l.length b.c] 24)).alloc (.cells #[.int .i64 b.coin, .slice b.pa b.l.length b.c, .int .i64 a.coin, .slice a.pa a.l.length a.c] 24)) := ((Below.refl _ _).alloc (Nat.le_refl _) _).alloc (by simp) _
 have l1 : Lies ((U.alloc (.cells #[.int .i64 a.coin, .slice a.pa a.l.length a.c, .int .i64 b.coin, .slice b.pa b.l.length b.c] 24)).alloc (.cells #[.int .i64 b.coin, .slice b.pa b.l.length b.c, .int .i64 a.coin, .slice a.pa a.l.length a.c] 24)) U.heap.size #[.int .i64 a.coin, .slice a.pa a.l.length a.c, .int .i64 b.coin, .slice b.pa b.l.length b.c] 24 := (Lies.new _ _ _).alloc _
 have l2 : Lies ((U.alloc (.cells #[.int .i64 a.coin, .slice a.pa a.l.length a.c, .int .i64 b.coin, .slice b.pa b.l.length b.c] 24)).alloc (.cells #[.int .i64 b.coin, .slice b.pa b.l.length b.c, .int .i64 a.coin, .slice a.pa a.l.length a.c] 24)) (U.heap.size + 1) #[.int .i64 b.coin, .slice b.pa b.l.length b.c, .int .i64 a.coin, .slice a.pa a.l.length a.c] 24 := lies_new2 _ _ _ _ (by simp)
 generalize (U.alloc (.cells #[.int .i64 a.coin, .slice a.pa a.l.length a.c, .int .i64 b.coin, .slice b.pa b.l.length b.c] 24)).alloc (.cells #[.int .i64 b.coin, .slice b.pa b.l.length b.c, .int .i64 a.coin, .slice a.pa a.l.length a.c] 24) = W at hb1 l1 l2 ⊢
 have ka := ha.below hb1 (Nat.le_refl _)
 have kb := hb.below hb1 (Nat.le_refl _)
 have km := hm.below hb1 (Nat.le_refl _)
 exact (sumsLaw_any W _ [a, b] 2 m.pa m.l m.c _ [b, a] 2 x (row2V l1 ka kb) (room2 ra rb) (fun e => by cases e) km.2.2 rm (row2V l2 kb ka) (room2 rb ra) (fun e => by cases e) f0 f1).mono fun e w' h => ⟨h.1, chB hb1 h.2⟩
theorem sums_two' (U : World) (a b m : Va) (x : Int) (ha : VaOk U a) (hb : VaOk U b) (hm : VaOk U m) (ra : Room a) (rb : Room b) (rm : Room m) (f0 : -9223372036854775808 ≤ x) (f1 : x < 9223372036854775808) :
  Calls Tryz.prog 4 #[.slice (some ⟨U.heap.size + 1, 0, none⟩) 2 2, .slice m.pa m.l.length m.c, .slice (some ⟨U.heap.size, 0, none⟩) 2 2, .int .i64 x] ((U.alloc (.cells #[.int .i64 b.coin, .slice b.pa b.l.length b.c, .int .i64 a.coin, .slice a.pa a.l.length a.c] 24)).alloc (.cells #[.int .i64 a.coin, .slice a.pa a.l.length a.c, .int .i64 b.coin, .slice b.pa b.l.length b.c] 24)) fun e w' => e = .returned (.bool true) ∧ Below U.heap.size U w' := by
 have hb1 : Below U.heap.size U ((U.alloc (.cells #[.int .i64 b.coin, .slice b.pa b.l.length b.c, .int .i64 a.coin, .slice a.pa a.l.length a.c] 24)).alloc (.cells #[.int .i64 a.coin, .slice a.pa a.l.length a.c, .int .i64 b.coin, .slice b.pa b.l.length b.c] 24)) := ((Below.refl _ _).alloc (Nat.le_refl _) _).alloc (by simp) _
 have l1 : Lies ((U.alloc (.cells #[.int .i64 b.coin, .slice b.pa b.l.length b.c, .int .i64 a.coin, .slice a.pa a.l.length a.c] 24)).alloc (.cells #[.int .i64 a.coin, .slice a.pa a.l.length a.c, .int .i64 b.coin, .slice b.pa b.l.length b.c] 24)) U.heap.size #[.int .i64 b.coin, .slice b.pa b.l.length b.c, .int .i64 a.coin, .slice a.pa a.l.length a.c] 24 := (Lies.new _ _ _).alloc _
 have l2 : Lies ((U.alloc (.cells #[.int .i64 b.coin, .slice b.pa b.l.length b.c, .int .i64 a.coin, .slice a.pa a.l.length a.c] 24)).alloc (.cells #[.int .i64 a.coin, .slice a.pa a.l.length a.c, .int .i64 b.coin, .slice b.pa b.l.length b.c] 24)) (U.heap.size + 1) #[.int .i64 a.coin, .slice a.pa a.l.length a.c, .int .i64 b.coin, .slice b.pa b.l.length b.c] 24 := lies_new2 _ _ _ _ (by simp)
 generalize (U.alloc (.cells #[.int .i64 b.coin, .slice b.pa b.l.length b.c, .int .i64 a.coin, .slice a.pa a.l.length a.c] 24)).alloc (.cells #[.int .i64 a.coin, .slice a.pa a.l.length a.c, .int .i64 b.coin, .slice b.pa b.l.length b.c] 24) = W at hb1 l1 l2 ⊢
 have ka := ha.below hb1 (Nat.le_refl _)
 have kb := hb.below hb1 (Nat.le_refl _)
 have km := hm.below hb1 (Nat.le_refl _)
 exact (sumsLaw_any W _ [a, b] 2 m.pa m.l m.c _ [b, a] 2 x (row2V l2 ka kb) (room2 ra rb) (fun e => by cases e) km.2.2 rm (row2V l1 kb ka) (room2 rb ra) (fun e => by cases e) f0 f1).mono fun e w' h => ⟨h.1, chB hb1 h.2⟩
theorem sums_three (U : World) (a b d v : Va) (p : Option Addr) (c : Nat) (x : Int) (ha : VaOk U a) (hb : VaOk U b) (hd : VaOk U d) (hp : RowV U p [v]) (ra : Room a) (rb : Room b) (rd : Room d) (rv : Room v) (hpc : p = none → c = 0) (f0 : -9223372036854775808 ≤ x) (f1 : x < 9223372036854775808) :
  Calls Tryz.prog 4 #[.slice (some ⟨U.heap.size, 0, none⟩) 3 3, .slice none 0 0, .slice p 1 c, .int .i64 x] (U.alloc (.cells #[.int .i64 a.coin, .slice a.pa a.l.length a.c, .int .i64 b.coin, .slice b.pa b.l.length b.c, .int .i64 d.coin, .slice d.pa d.l.length d.c] 24)) fun e w' => e = .returned (.bool true) ∧ Below U.heap.size U w' := by
 have hb1 : Below U.heap.size U (U.alloc (.cells #[.int .i64 a.coin, .slice a.pa a.l.length a.c, .int .i64 b.coin, .slice b.pa b.l.length b.c, .int .i64 d.coin, .slice d.pa d.l.length d.c] 24)) := (Below.refl _ _).alloc (Nat.le_refl _) _
 have l1 := Lies.new U #[.int .i64 a.coin, .slice a.pa a.l.length a.c, .int .i64 b.coin, .slice b.pa b.l.length b.c, .int .i64 d.coin, .slice d.pa d.l.length d.c] 24
 generalize U.alloc (.cells #[.int .i64 a.coin, .slice a.pa a.l.length a.c, .int .i64 b.coin, .slice b.pa b.l.length b.c, .int .i64 d.coin, .slice d.pa d.l.length d.c] 24) = W at hb1 l1 ⊢
 have ka := ha.below hb1 (Nat.le_refl _)
 have kb := hb.below hb1 (Nat.le_refl _)
 have kd := hd.below hb1 (Nat.le_refl _)
 exact (sumsLaw_any W _ [a, b, d] 3 none [] 0 p [v] c x (row3V l1 ka kb kd) (fun u hu => by
  rcases List.mem_cons.1 hu with rfl | hu
  ·
   exact ra
  ·
   exact room2 rb rd u hu) (fun e => by cases e) (row_nil _) (fun _ => rfl) (hp.below hb1 (Nat.le_refl _)) (fun u hu => by rw [List.mem_singleton.1 hu]; exact rv) hpc f0 f1).mono fun e w' h => ⟨h.1, chB hb1 h.2⟩
theorem sums_rows (U : World) (a b m : Va) (ha : VaOk U a) (hb : VaOk U b) (hm : VaOk U m) (ra : Room a) (rb : Room b) (rm : Room m) :
  Calls Tryz.prog 4 #[.slice (some ⟨U.heap.size, 0, none⟩) 2 2, .slice m.pa m.l.length m.c, .slice none 0 0, .int .i64 0] (U.alloc (.cells #[.int .i64 a.coin, .slice a.pa a.l.length a.c, .int .i64 b.coin, .slice b.pa b.l.length b.c] 24)) fun e w' => e = .returned (.bool true) ∧ Below U.heap.size U w' := by
 have hb1 : Below U.heap.size U (U.alloc (.cells #[.int .i64 a.coin, .slice a.pa a.l.length a.c, .int .i64 b.coin, .slice b.pa b.l.length b.c] 24)) := (Below.refl _ _).alloc (Nat.le_refl _) _
 have l1 := Lies.new U #[.int .i64 a.coin, .slice a.pa a.l.length a.c, .int .i64 b.coin, .slice b.pa b.l.length b.c] 24
 generalize U.alloc (.cells #[.int .i64 a.coin, .slice a.pa a.l.length a.c, .int .i64 b.coin, .slice b.pa b.l.length b.c] 24) = W at hb1 l1 ⊢
 have ka := ha.below hb1 (Nat.le_refl _)
 have kb := hb.below hb1 (Nat.le_refl _)
 exact (sumsLaw_any W _ [a, b] 2 m.pa m.l m.c none [] 0 0 (row2V l1 ka kb) (room2 ra rb) (fun e => by cases e) (hm.below hb1 (Nat.le_refl _)).2.2 rm (row0V W) (fun v hv => by simp at hv) (fun _ => rfl) (by decide) (by decide)).mono fun e w' h => ⟨h.1, chB hb1 h.2⟩
theorem sums_nil (U : World) : Calls Tryz.prog 4 #[.slice none 0 0, .slice none 0 0, .slice none 0 0, .int .i64 0] U fun e w' => e = .returned (.bool true) ∧ Below U.heap.size U w' :=
 sumsLaw_any U none [] 0 none [] 0 none [] 0 0 (row0V U) (fun v hv => by simp at hv) (fun _ => rfl) (row_nil _) (fun _ => rfl) (row0V U) (fun v hv => by simp at hv) (fun _ => rfl) (by decide) (by decide)
theorem tells_at (U : World) (a b : Va) (p t : List UInt8) (ha : VaOk U a) (hb : VaOk U b) (ra : Room a) (rb : Room b) (hp : p.length = 32) (ht : t.length ≤ 33) :
  Calls Tryz.prog 3 #[.agg #[.int .i64 a.coin, .slice a.pa a.l.length a.c], .agg #[.int .i64 b.coin, .slice b.pa b.l.length b.c], .agg (B8 p), .string (txt t)] U fun e w' => e = .returned (.bool true) ∧ Below U.heap.size U w' :=
 tells_any U a b p t ha hb ra rb hp (Nat.le_trans ht (by decide))
theorem held_done {P : Program} {ops : Array Oper} {Q : Exit → Act → World → Prop} {md : Region.Mode} {S : World → Prop} {fuel : Nat} {listed : Array Bool} {a : Act} {w : World} (hr : Region.ready md ops listed = []) (h : Q .normal a w) : wpAnyH P md ops Q S fuel listed a w := by
 cases fuel with
 | zero => exact ⟨hr, h⟩
 | succ f => exact ⟨fun _ => h, fun i hi => by rw [hr] at hi; cases hi⟩
structure TwoA (B : Nat) (W : World) (r o : Value) (l m : List As) (k : Nat) : Prop where
 own1 : OwnAs W B r l
 own2 : OwnAs W B o m
 ok1 : ∀ a, a ∈ l → AsOk a
 ok2 : ∀ a, a ∈ m → AsOk a
 len1 : l.length ≤ k
 len2 : m.length ≤ k
 far : r.ownBlock = none ∨ r.ownBlock ≠ o.ownBlock
theorem TwoA.below {B : Nat} {W U : World} {r o : Value} {l m : List As} {k : Nat} (h : TwoA B W r o l m k) (hb : Below W.heap.size W U) : TwoA B U r o l m k := ⟨ownsRow_below h.own1 hb, ownsRow_below h.own2 hb, h.ok1, h.ok2, h.len1, h.len2, h.far⟩
theorem TwoA.mono {B : Nat} {W : World} {r o : Value} {l m : List As} {k k' : Nat} (h : TwoA B W r o l m k) (hk : k ≤ k') : TwoA B W r o l m k' := ⟨h.own1, h.own2, h.ok1, h.ok2, Nat.le_trans h.len1 hk, Nat.le_trans h.len2 hk, h.far⟩
theorem own_far2 {W : World} {B : Nat} {r : Value} {l : List As} (h : OwnAs W B r l) : r.ownBlock ≠ some W.heap.size := fun e => by
 have := (h.lt _ e).2
 omega
theorem TwoA.first {B : Nat} {W U : World} {r r' o : Value} {l m : List As} {a : As} {k : Nat} (h : TwoA B W r o l m k) (ha : AsOk a) (ho : OwnAs U B r' (l ++ [a])) (hg : W.grownBy U r.ownBlock) (hat : r'.ownBlock = r.ownBlock ∨ r'.ownBlock = some W.heap.size) : TwoA B U r' o (l ++ [a]) m (k + 1) :=
 ⟨ho, h.own2.kept hg (by
   by_cases hn : o.ownBlock = none
   ·
    exact .inl hn
   ·
    right
    rcases h.far with e | e
    ·
     rw [e]; exact hn
    ·
     exact fun e2 => e e2.symm), fun b hb => by
  rcases List.mem_append.1 hb with hb | hb
  ·
   exact h.ok1 b hb
  ·
   rw [List.mem_singleton.1 hb]; exact ha, h.ok2, by rw [List.length_append]; exact Nat.add_le_add_right h.len1 1, Nat.le_succ_of_le h.len2, by
  rcases hat with e | e
  ·
   rw [e]; exact h.far
  ·
   right; rw [e]; exact fun e2 => own_far2 h.own2 e2.symm⟩
theorem TwoA.second {B : Nat} {W U : World} {r o o' : Value} {l m : List As} {a : As} {k : Nat} (h : TwoA B W r o l m (k + 1)) (hk : m.length ≤ k) (ha : AsOk a) (ho : OwnAs U B o' (m ++ [a])) (hg : W.grownBy U o.ownBlock) (hat : o'.ownBlock = o.ownBlock ∨ o'.ownBlock = some W.heap.size) : TwoA B U r o' l (m ++ [a]) (k + 1) :=
 ⟨h.own1.kept hg h.far, ho, h.ok1, fun b hb => by
  rcases List.mem_append.1 hb with hb | hb
  ·
   exact h.ok2 b hb
  ·
   rw [List.mem_singleton.1 hb]; exact ha, h.len1, by rw [List.length_append]; exact Nat.add_le_add_right hk 1, by
  rcases hat with e | e
  ·
   rw [e]; exact h.far
  ·
   right; rw [e]; exact own_far2 h.own1⟩
theorem wpList_append_A1 {ops : Array Oper} {rest : List Oper} {o : Oper} {a : Act} {w : World} {Q : Exit → Act → World → Prop} (hgd : o.guard = none) (s x : Operand)
  (ho : o.op = .call { callee := .builtin .append, args := #[s, x], argTypes := #[22, 22] })
  (B g : Nat) (v : Value) (ys : List As) (b : As) (hs : a.eval s = v) (hown : OwnAs w B v ys) (hx : a.eval x = .slice (some ⟨g, 0, none⟩) 1 1) (hl : Lies w g (asC b) 38) (hok : AsOk b) (hlen : ys.length + 1 ≤ 1000000) (hB : B ≤ w.heap.size)
  (h : ∀ v' w', OwnAs w' B v' (ys ++ [b]) → w.grownBy w' v.ownBlock → (v'.ownBlock = v.ownBlock ∨ v'.ownBlock = some w.heap.size) → wpList Tryz.prog ops Q rest (a.put o.dst v') w') :
  wpList Tryz.prog ops Q (o :: rest) a w := by
 obtain ⟨i0, z0, hi0, hz0, hz1, hz2, hz3⟩ := info_parts info54
 refine wpList_append_own_at w hgd s x 22 ho B 38 i0 z0 34 56 Tryz.underlying22 hi0 hz0 hz1 hz2 hz3 (by decide) v ys.length _ hs hown ⟨g, 0, none⟩ 1 1 (cellsF asC [b]) hx (cellsF_len asC 34 _ fun a ha => by rw [List.mem_singleton.1 ha]; exact asC_size b hok.1) (src_one asC hl) (cellsF_one asC _ fun a _ => asC_one a) (by unfold maxLen; omega) (by omega) hB ?_
 intro v' w' h2 h3 _ h5
 exact h v' w' (by unfold OwnAs; rw [List.length_append, cellsF_app]; exact h2) h3 h5
theorem TwoA.start (B : Nat) (W : World) : TwoA B W (.slice none 0 0) (.slice none 0 0) [] [] 0 := ⟨World.ownsRow_nil _ _ _ _, World.ownsRow_nil _ _ _ _, fun a ha => by simp at ha, fun a ha => by simp at ha, Nat.le_refl _, Nat.le_refl _, .inl rfl⟩
theorem own_va {B : Nat} {W : World} {r : Value} {l : List As} (h : OwnAs W B r l) (ok : ∀ a, a ∈ l → AsOk a) (hl : l.length ≤ 100) : ∃ v : Va, v.coin = 0 ∧ v.l = l ∧ r = .slice v.pa v.l.length v.c ∧ VaOk W v ∧ Room v := by
 obtain ⟨p, c, h1, h2⟩ := OwnAs.row h ok (Nat.le_trans hl (by decide))
 refine ⟨⟨0, p, l, c⟩, rfl, rfl, h1, ⟨(by decide : (-9223372036854775808 : Int) ≤ 0), (by decide : (0 : Int) < 9223372036854775808), h2⟩, fun e => ?_⟩
 have e : p = none := e
 subst e
 rcases h.2 with ⟨k1, _⟩ | ⟨g, cap, cur, k1, _⟩
 ·
  rw [h1] at k1
  simp only [Value.slice.injEq, true_and] at k1
  exact k1.2
 ·
  rw [h1] at k1; cases k1
theorem mod_facts {k m a : Nat} (h : a = k % m) (hm : 0 < m) : (k : Int).tmod (m : Int) = (a : Int) ∧ (0 : Int) ≤ (a : Int) ∧ (a : Int) < (m : Int) ∧ a < m := by
 have h1 : a < m := by rw [h]; exact Nat.mod_lt _ hm
 have q0 : (0 : Int) ≤ (k : Int) := Int.natCast_nonneg k
 refine ⟨by rw [Int.tmod_eq_emod_of_nonneg q0, h]; simp, Int.natCast_nonneg a, Int.ofNat_lt.2 h1, h1⟩
theorem div_facts {k b : Nat} (h : b = k / 5) (hk : k < 25) : (k : Int).tdiv 5 = (b : Int) ∧ IntKind.i64.wrap (b : Int) = (b : Int) ∧ (0 : Int) ≤ (b : Int) ∧ (b : Int) < 5 ∧ b < 5 := by
 have h1 : b < 5 := by omega
 have q0 : (0 : Int) ≤ (k : Int) := Int.natCast_nonneg k
 refine ⟨by rw [Int.tdiv_eq_ediv_of_nonneg q0, h]; simp, by rw [IntKind.wrap_i64]; omega, Int.natCast_nonneg b, by omega, h1⟩
theorem u8nv {k : Nat} (h : k < 256) : ((UInt8.ofNat k).toNat : Int) = (k : Int) := by
 have e : (UInt8.ofNat k).toNat = k := by
  rw [UInt8.toNat_ofNat']
  exact Nat.mod_eq_of_lt h
 rw [e]
theorem row3T {W : World} {gt g1 r : Nat} {A B : To} {c1 c2 : Array Value} {t u : TypeId} (hA : c1 = toC A) (hB : c2 = toC B) (kA : ToOk A) (kB : ToOk B) (hL : Lies W gt (c1 ++ c2) t) (hr : r ≤ 2)
  (h1 : Lies W g1 #[.slice (some ⟨gt, 0, none⟩) 2 2, .slice (some ⟨gt, 0, none⟩) r 2, .slice (some ⟨gt, 35, none⟩) 1 1] u) : RowRT W (some ⟨g1, 0, none⟩) [⟨some ⟨gt, 0, none⟩, [A, B], 2⟩, ⟨some ⟨gt, 0, none⟩, [A, B].take r, 2⟩, ⟨some ⟨gt, 35, none⟩, [B], 1⟩] := by
 have s1 : c1.size = 35 := by rw [hA]; exact toC_size A kA.1
 have s2 : c2.size = 35 := by rw [hB]; exact toC_size B kB.1
 have kk : ∀ a, a ∈ [A, B] → ToOk a := fun a ha => by
  rcases List.mem_cons.1 ha with rfl | ha
  ·
   exact kA
  ·
   rw [List.mem_singleton.1 ha]; exact kB
 have at0 : ∀ j x, (toC A)[j]? = some x → (c1 ++ c2)[j]? = some x := fun j x hx => by
  have hj := (Array.getElem?_eq_some_iff.1 hx).1
  rw [← hA] at hx hj
  rw [Array.getElem?_append_left hj]; exact hx
 have at1 : ∀ j x, (toC B)[j]? = some x → (c1 ++ c2)[35 + j]? = some x := fun j x hx => by
  rw [← hB] at hx
  rw [Array.getElem?_append_right (by omega), s1, Nat.add_sub_cancel_left]; exact hx
 have rT : RowT W (some ⟨gt, 0, none⟩) [A, B] := rowT_of hL (fun i a hi j x hx => by
  have hil : i < 2 := (List.getElem?_eq_some_iff.1 hi).1
  have : i = 0 ∨ i = 1 := by omega
  rcases this with rfl | rfl
  ·
   obtain rfl : A = a := by simpa using hi
   simpa using at0 j x hx
  ·
   obtain rfl : B = a := by simpa using hi
   simpa using at1 j x hx) kk (show 2 ≤ maxLen by decide)
 have rT2 : RowT W (some ⟨gt, 0, none⟩) ([A, B].take r) := ⟨Nat.le_trans (List.length_take_le' r [A, B]) (show 2 ≤ maxLen by decide), fun a ha => kk a (List.mem_of_mem_take ha), fun _ => ⟨gt, 0, rfl, hL.lt, fun i a hi j x hx => by
  obtain ⟨g, off, e, _, hh⟩ := rT.2.2 (by simp)
  cases e
  have hi2 : [A, B][i]? = some a := by
   rw [List.getElem?_take] at hi
   split at hi
   ·
    exact hi
   ·
    cases hi
  exact hh i a hi2 j x hx⟩⟩
 have rT3 : RowT W (some ⟨gt, 35, none⟩) [B] := rowT_of hL (fun i a hi j x hx => by
  have hil : i < 1 := (List.getElem?_eq_some_iff.1 hi).1
  have : i = 0 := by omega
  subst this
  obtain rfl : B = a := by simpa using hi
  simpa using at1 j x hx) (fun a ha => by rw [List.mem_singleton.1 ha]; exact kB) (show 1 ≤ maxLen by decide)
 have hrl : ([A, B].take r).length = r := by rw [List.length_take]; show min r 2 = r; omega
 refine ⟨show 3 ≤ maxLen by decide, fun _ => ⟨g1, 0, rfl, h1.lt, fun i q hi => ?_⟩⟩
 have hil : i < 3 := (List.getElem?_eq_some_iff.1 hi).1
 have : i = 0 ∨ i = 1 ∨ i = 2 := by omega
 rcases this with rfl | rfl | rfl
 ·
  obtain rfl := Option.some.inj (show some (⟨some ⟨gt, 0, none⟩, [A, B], 2⟩ : Tr) = some q from hi)
  exact ⟨h1.cell 0 rfl, rT⟩
 ·
  obtain rfl := Option.some.inj (show some (⟨some ⟨gt, 0, none⟩, [A, B].take r, 2⟩ : Tr) = some q from hi)
  exact ⟨by show W.cell? ⟨g1, 1, none⟩ = some (.slice _ ([A, B].take r).length 2); rw [hrl]; exact h1.cell 1 rfl, rT2⟩
 ·
  obtain rfl := Option.some.inj (show some (⟨some ⟨gt, 35, none⟩, [B], 1⟩ : Tr) = some q from hi)
  exact ⟨h1.cell 2 rfl, rT3⟩
theorem row3W {W : World} {g : Nat} {x y z : BitVec 128} {t : TypeId} (h : Lies W g #[.int .i64 (hiS x), .int .u64 (loN x), .int .i64 (hiS y), .int .u64 (loN y), .int .i64 (hiS z), .int .u64 (loN z)] t) : RowW W (some ⟨g, 0, none⟩) [x, y, z] :=
 ⟨show 3 ≤ maxLen by decide, fun _ => ⟨g, 0, rfl, h.lt, fun i q hi j v hj => by
  have hil : i < 3 := (List.getElem?_eq_some_iff.1 hi).1
  have hjl : j < 2 := (List.getElem?_eq_some_iff.1 hj).1
  have h1 : i = 0 ∨ i = 1 ∨ i = 2 := by omega
  have h2 : j = 0 ∨ j = 1 := by omega
  rcases h1 with rfl | rfl | rfl
  ·
   obtain rfl := Option.some.inj (show some x = some q from hi)
   rcases h2 with rfl | rfl
   ·
    obtain rfl := Option.some.inj (show some _ = some v from hj); exact h.cell 0 rfl
   ·
    obtain rfl := Option.some.inj (show some _ = some v from hj); exact h.cell 1 rfl
  ·
   obtain rfl := Option.some.inj (show some y = some q from hi)
   rcases h2 with rfl | rfl
   ·
    obtain rfl := Option.some.inj (show some _ = some v from hj); exact h.cell 2 rfl
   ·
    obtain rfl := Option.some.inj (show some _ = some v from hj); exact h.cell 3 rfl
  ·
   obtain rfl := Option.some.inj (show some z = some q from hi)
   rcases h2 with rfl | rfl
   ·
    obtain rfl := Option.some.inj (show some _ = some v from hj); exact h.cell 4 rfl
   ·
    obtain rfl := Option.some.inj (show some _ = some v from hj); exact h.cell 5 rfl⟩⟩
theorem wides_at {W : World} {gt g1 g2 r : Nat} {A B : To} {c1 c2 : Array Value} {t u s : TypeId} {x y z : BitVec 128} {n : Int} (hA : c1 = toC A) (hB : c2 = toC B) (kA : A.nm.1.length = 32 ∧ A.nm.2.length ≤ 33) (kB : B.nm.1.length = 32 ∧ B.nm.2.length ≤ 33) (hL : Lies W gt (c1 ++ c2) t) (hr : r ≤ 2)
  (h1 : Lies W g1 #[.slice (some ⟨gt, 0, none⟩) 2 2, .slice (some ⟨gt, 0, none⟩) r 2, .slice (some ⟨gt, 35, none⟩) 1 1] u) (h2 : Lies W g2 #[.int .i64 (hiS x), .int .u64 (loN x), .int .i64 (hiS y), .int .u64 (loN y), .int .i64 (hiS z), .int .u64 (loN z)] s) (f0 : -9223372036854775808 ≤ n) (f1 : n < 9223372036854775808) :
  Calls Tryz.prog 5 #[.slice (some ⟨g1, 0, none⟩) 3 3, .slice (some ⟨g2, 0, none⟩) 3 3, .int .i64 n] W fun e w' => e = .returned (.bool true) ∧ Below W.heap.size W w' := by
 have kk : ∀ a, a ∈ [A, B] → a.nm.1.length = 32 ∧ a.nm.2.length ≤ 281474976710656 := fun a ha => by
  rcases List.mem_cons.1 ha with rfl | ha
  ·
   exact ⟨kA.1, Nat.le_trans kA.2 (by decide)⟩
  ·
   rw [List.mem_singleton.1 ha]; exact ⟨kB.1, Nat.le_trans kB.2 (by decide)⟩
 refine widesLaw_any W (some ⟨g1, 0, none⟩) [⟨some ⟨gt, 0, none⟩, [A, B], 2⟩, ⟨some ⟨gt, 0, none⟩, [A, B].take r, 2⟩, ⟨some ⟨gt, 35, none⟩, [B], 1⟩] 3 (some ⟨g2, 0, none⟩) [x, y, z] 3 n (row3T hA hB ⟨kA.1, Nat.le_trans kA.2 (by decide)⟩ ⟨kB.1, Nat.le_trans kB.2 (by decide)⟩ hL hr h1) (fun q hq e => ?_) (fun q hq => ?_) (row3W h2) (fun p hp => ?_) f0 f1
 ·
  simp only [List.mem_cons, List.not_mem_nil, or_false] at hq
  rcases hq with rfl | rfl | rfl <;> cases e
 ·
  simp only [List.mem_cons, List.not_mem_nil, or_false] at hq
  rcases hq with rfl | rfl | rfl
  ·
   show 2 ≤ 281474976710656; decide
  ·
   exact Nat.le_trans (List.length_take_le' r [A, B]) (by show 2 ≤ 281474976710656; decide)
  ·
   show 1 ≤ 281474976710656; decide
 ·
  have : ∃ a, a ∈ [A, B] ∧ p.1 = a.nm := by
   unfold ctM ctT at hp
   simp only [List.mem_flatMap, List.mem_map, List.mem_cons, List.not_mem_nil, or_false] at hp
   obtain ⟨q, hq, a, ha, rfl⟩ := hp
   rcases hq with rfl | rfl | rfl
   ·
    exact ⟨a, ha, rfl⟩
   ·
    exact ⟨a, List.mem_of_mem_take ha, rfl⟩
   ·
    rw [List.mem_singleton.1 ha]; exact ⟨B, by simp, rfl⟩
  obtain ⟨a, ha, e⟩ := this
  rw [e]; exact kk a ha
end Go.Proofs.YtjngghihciimjaaGreat
