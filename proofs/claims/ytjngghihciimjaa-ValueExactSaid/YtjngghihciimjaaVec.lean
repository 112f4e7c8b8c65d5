/-
  What ValueExact's walk rests on: few contributions; rows of bundles and of totals that grow.
-/
import Derived.Test.YtjngghihciimjaaVme
import Derived.Test.YtjngghihciimjaaVri
namespace Go.Proofs.Ytjngghihciimjaa
set_option maxRecDepth 100000
open Go.RowKit Go.Sort Go.Maps

/-- A few assets, of short names. -/
def FewA (l : List As) : Prop := l.length ≤ 200 ∧ ∀ a, a ∈ l → a.nm.1.length = 32 ∧ a.nm.2.length ≤ 4000
/-- A few bundles of such. -/
def FewV (vs : List Va) : Prop := vs.length ≤ 1000 ∧ ∀ v, v ∈ vs → FewA v.l
theorem cts_len : ∀ vs : List Va, (∀ v, v ∈ vs → FewA v.l) → (ctsL vs).length ≤ vs.length * 200
  | [], _ => Nat.zero_le _
  | v :: vs, h => by
    have e : ctsL (v :: vs) = ctsOf v ++ ctsL vs := rfl
    have h1 := cts_len vs fun u hu => h u (by simp [hu])
    have h2 := (h v (by simp)).1
    have h3 : (ctsOf v).length = v.l.length := by simp [ctsOf]
    rw [e, List.length_append, List.length_cons, Nat.succ_mul]
    omega
theorem FewV.cts {vs : List Va} (h : FewV vs) : (ctsL vs).length ≤ 1000000 := by
  have h1 := cts_len vs h.2
  have h2 := h.1
  omega
theorem FewV.names {vs : List Va} (h : FewV vs) : ∀ p, p ∈ ctsL vs → p.1.1.length = 32 ∧ p.1.2.length ≤ 4000 := fun p hp => by
  obtain ⟨v, hv, a, ha, rfl⟩ := ctsL_mem hp
  exact (h.2 v hv).2 a ha
theorem FewV.wide {vs : List Va} (h : FewV vs) : ∀ p, p ∈ ctsL vs → p.1.1.length = 32 ∧ p.1.2.length ≤ 281474976710656 := fun p hp => ⟨(h.names p hp).1, Nat.le_trans (h.names p hp).2 (by decide)⟩
theorem FewV.app {vs us : List Va} (h : FewV vs) (k : FewV us) (hn : vs.length + us.length ≤ 1000) : FewV (vs ++ us) := ⟨by rw [List.length_append]; exact hn, fun v hv => by
  rcases List.mem_append.1 hv with hv | hv
  · exact h.2 v hv
  · exact k.2 v hv⟩
theorem FewV.one {v : Va} (h : FewA v.l) : FewV [v] := ⟨show 1 ≤ 1000 by decide, fun u hu => by rw [List.mem_singleton] at hu; rw [hu]; exact h⟩
theorem FewV.of_perm {vs us : List Va} (h : FewV vs) (hp : vs.Perm us) : FewV us := ⟨by rw [← hp.length_eq]; exact h.1, fun v hv => h.2 v (hp.mem_iff.2 hv)⟩
theorem few_nil : FewA [] := ⟨Nat.zero_le _, fun a ha => by simp at ha⟩
theorem cntV_mem : ∀ {vs : List Va} {v : Va}, v ∈ vs → cntV v ≤ cntVs vs
  | u :: vs, v, h => by
    have e : cntVs (u :: vs) = cntV u + cntVs vs := by simp [cntVs]
    rw [e]
    rcases List.mem_cons.1 h with rfl | h
    · omega
    · have := cntV_mem h
      omega
theorem cntVs_len : ∀ vs : List Va, vs.length ≤ cntVs vs
  | [] => Nat.zero_le _
  | v :: vs => by
    have e : cntVs (v :: vs) = cntV v + cntVs vs := by simp [cntVs]
    have h := cntVs_len vs
    rw [e, List.length_cons]
    unfold cntV
    omega
theorem few_cnt {l : List As} (ho : ∀ a, a ∈ l → AsOk a) (h : cntA l ≤ 200) : FewA l := ⟨Nat.le_trans (cntA_len l) h, fun a ha => ⟨(ho a ha).1, by
  have h1 := cntA_mem ha
  omega⟩⟩
theorem few_of {w : World} {pa : Option Addr} {vs : List Va} (h : RowV w pa vs) (hc : cntVs vs ≤ 200) : vs.length ≤ 200 ∧ FewV vs := by
  have h1 := cntVs_len vs
  refine ⟨by omega, by omega, fun v hv => few_cnt (h.ok v hv).2.2.2.1 ?_⟩
  have h2 := cntV_mem hv
  unfold cntV at h2
  omega
/-- What is told of few is few. -/
theorem few_told {vs : List Va} {coin : Int} {l : List As} (h : FewV vs) (hz : AddZ vs coin l) : FewA l := by
  obtain ⟨_, _, _, tl, h2, h3, _, rfl⟩ := hz
  refine ⟨by unfold asT; rw [List.length_map]; omega, fun a ha => ?_⟩
  unfold asT at ha
  obtain ⟨t, ht, rfl⟩ := List.mem_map.1 ha
  have h5 := h2.says (t.nm, t.w) (List.mem_map.2 ⟨t, ht, rfl⟩)
  obtain ⟨p, hp, e⟩ := sumAt_mem (by rw [← h5.1]; exact h5.2)
  have := h.names p hp
  rw [e] at this
  exact this
/-- Sums of few. -/
theorem sums_few (w : World) (pa : Option Addr) (vs : List Va) (c : Nat) (h : RowV w pa vs) (hf : FewV vs) :
    Calls Try.prog 13 #[.slice pa vs.length c] w fun e w' => SumsResF vs w.heap.size w' e ∧ Below w.heap.size w w' :=
  sumsF_any totals_any w pa vs c h hf.cts hf.wide
/-- Balance of few. -/
theorem bal_few (w : World) (pi : Option Addr) (vs : List Va) (ci : Nat) (pm : Option Addr) (ml : List As) (cm : Nat) (po : Option Addr) (us : List Va) (co : Nat) (fee : Int)
    (hv : RowV w pi vs) (hm : Row w pm ml) (hu : RowV w po us) (f0 : -9223372036854775808 ≤ fee) (f1 : fee < 9223372036854775808) (hci : pi = none → ci = 0) (hco : po = none → co = 0)
    (n1 : FewV (vs ++ [⟨0, pm, ml, cm⟩])) (n2 : FewV (us ++ [⟨fee, none, [], 0⟩])) :
    Calls Try.prog 17 #[.slice pi vs.length ci, .slice pm ml.length cm, .slice po us.length co, .int .i64 fee] w fun e w' => BalRes (vs ++ [⟨0, pm, ml, cm⟩]) (us ++ [⟨fee, none, [], 0⟩]) e ∧ Below w.heap.size w w' := by
  have h1 := n1.1
  have h2 := n2.1
  rw [List.length_append] at h1 h2
  have h3 : [(⟨0, pm, ml, cm⟩ : Va)].length = 1 := rfl
  have h4 : [(⟨fee, none, [], 0⟩ : Va)].length = 1 := rfl
  exact balance_any w pi vs ci pm ml cm po us co fee hv hm hu f0 f1 hci hco (by omega) (by omega) n1.cts n2.cts n1.wide n2.wide
/-- What comes in. -/
structure ExIn (W : World) (b9 : Nat) (pi : Option Addr) (vs : List Va) (pm : Option Addr) (ml : List As) (po : Option Addr) (us : List Va) (m : Va) : Prop where
  vin : RowV W pi vs
  mint : Row W pm ml
  out : RowV W po us
  more : VaOk W m
  box : Lies W b9 #[.int .i64 m.coin, .slice m.pa m.l.length m.c] 24
theorem ExIn.below {W U : World} {b9 : Nat} {pi pm po : Option Addr} {vs us : List Va} {ml : List As} {m : Va} (h : ExIn W b9 pi vs pm ml po us m) (hb : Below W.heap.size W U) : ExIn U b9 pi vs pm ml po us m :=
  ⟨h.vin.below hb (Nat.le_refl _), h.mint.below hb (Nat.le_refl _), h.out.below hb (Nat.le_refl _), h.more.below hb (Nat.le_refl _), h.box.below hb h.box.lt⟩
/-- Rows of totals, in a row of the call's own. -/
def trC (r : Tr) : Array Value := #[.slice r.pa r.l.length r.c]
def OwnRs (w : World) (B : Nat) (v : Value) (rs : List Tr) : Prop := w.ownsRow B 40 1 v rs.length (cellsF trC rs)
theorem info40 : (Try.prog.info? 40).map (fun i => (i.zero.map (·.cells.size), i.size, i.bytes)) = some (some 1, 1, 24) := by kernel_rfl
theorem OwnRs.row {w : World} {B : Nat} {v : Value} {rs : List Tr} (h : OwnRs w B v rs) (ho : ∀ r, r ∈ rs → RowT w r.pa r.l) (hl : rs.length ≤ maxLen) : ∃ pa c, v = .slice pa rs.length c ∧ RowRT w pa rs := by
  rcases own_at trC 1 (fun a _ => rfl) h with ⟨h1, rfl⟩ | ⟨g, cap, h1, h2, h3, h4, h5, _⟩
  · exact ⟨none, 0, h1, hl, fun h => absurd h (by simp)⟩
  · refine ⟨_, cap, h1, hl, fun _ => ⟨g, 0, rfl, h3, fun i a hi => ⟨?_, ho a (List.mem_of_getElem? hi)⟩⟩⟩
    have := h5 i a hi 0 (.slice a.pa a.l.length a.c) rfl
    rw [Nat.mul_one, Nat.zero_add, Nat.add_zero] at this
    rw [Nat.zero_add]
    exact this
theorem OwnVs.rowC {w : World} {B : Nat} {v : Value} {vs : List Va} (h : OwnVs w B v vs) (ho : ∀ a, a ∈ vs → VaOk w a) (hl : vs.length ≤ maxLen) : ∃ pa c, v = .slice pa vs.length c ∧ RowV w pa vs ∧ (pa = none → c = 0) := by
  rcases own_at vaC 2 (fun a _ => vaC_size a) h with ⟨h1, rfl⟩ | ⟨g, cap, h1, h2, h3, h4, h5, _⟩
  · exact ⟨none, 0, h1, ⟨hl, fun h => absurd h (by simp)⟩, fun _ => rfl⟩
  · exact ⟨_, cap, h1, ⟨hl, fun _ => ⟨g, 0, rfl, h3, fun i a hi => ⟨h5 i a hi, ho a (List.mem_of_getElem? hi)⟩⟩⟩, fun e => by cases e⟩
/-- A row of totals apart from what grows. -/
def Pend (W : World) (b : Nat) (s r : Value) (x : Tr) : Prop := RowT W x.pa x.l ∧ (0 < x.l.length → ∀ a, x.pa = some a → b < a.block ∧ some a.block ≠ s.ownBlock ∧ some a.block ≠ r.ownBlock)
theorem RowT.blk {W : World} {pa : Option Addr} {l : List To} (h : RowT W pa l) (hl : 0 < l.length) {a : Addr} (e : pa = some a) : a.block < W.heap.size := by
  obtain ⟨g, off, e2, hg, _⟩ := h.2.2 hl
  rw [e] at e2
  cases e2
  exact hg
theorem Pend.step {W U : World} {b : Nat} {s r : Value} {x : Tr} (h : Pend W b s r x) (hb : Below W.heap.size W U) : Pend U b s r x := ⟨h.1.below hb (Nat.le_refl _), h.2⟩
theorem Pend.move {W U : World} {b : Nat} {s r s' r' : Value} {x : Tr} {k : Option Nat} (h : Pend W b s r x) (hg : W.grownBy U k) (hk : ∀ j, j ∉ [b] → some j ≠ s.ownBlock → some j ≠ r.ownBlock → some j ≠ k) (hs : s'.ownBlock = s.ownBlock ∨ s'.ownBlock = some W.heap.size) (hr : r'.ownBlock = r.ownBlock ∨ r'.ownBlock = some W.heap.size) : Pend U b s' r' x := by
  refine ⟨h.1.but hg fun g off e hl => ?_, fun hl a e => ?_⟩
  · obtain ⟨h1, h2, h3⟩ := h.2 hl _ e
    exact hk g (by simp; exact fun e => by have h4 : b < g := h1; omega) h2 h3
  · obtain ⟨h1, h2, h3⟩ := h.2 hl a e
    have hlt := h.1.blk hl e
    refine ⟨h1, ?_, ?_⟩
    · rcases hs with hs | hs
      · rw [hs]; exact h2
      · rw [hs]; exact fun e => by have := Option.some.inj e; omega
    · rcases hr with hr | hr
      · rw [hr]; exact h3
      · rw [hr]; exact fun e => by have := Option.some.inj e; omega
/-- The first loop on its way. -/
structure ExLoop (Wb W : World) (S : BitVec 128) (s r : Value) (bk : List Va) (rs : List Tr) : Prop where
  below : Below Wb.heap.size Wb W
  sum : Lies W Wb.heap.size #[.int .i64 (hiS S), .int .u64 (loN S)] 39
  back : OwnVs W (Wb.heap.size + 1) s bk
  rows : OwnRs W (Wb.heap.size + 1) r rs
  each : ∀ x, x ∈ rs → Pend W Wb.heap.size s r x
theorem ExLoop.step {Wb W U : World} {S : BitVec 128} {s r : Value} {bk : List Va} {rs : List Tr} (h : ExLoop Wb W S s r bk rs) (hb : Below W.heap.size W U) : ExLoop Wb U S s r bk rs :=
  ⟨h.below.trans (hb.mono h.below.size), h.sum.below hb h.sum.lt, ownsRow_below h.back hb, ownsRow_below h.rows hb, fun x hx => (h.each x hx).step hb⟩
theorem own_apart {W : World} {B C : Nat} {s r : Value} {bk : List Va} {rs : List Tr} (h : OwnVs W B s bk) (k : OwnRs W C r rs) : r.ownBlock = none ∨ r.ownBlock ≠ s.ownBlock := by
  rcases k.2 with ⟨h1, _⟩ | ⟨g, cap, cur, h1, _, h3, _⟩
  · rw [h1]; exact .inl rfl
  · right
    rw [h1]
    exact ownsRow_far (g := g) (cs := cur) h h3 (by decide)
theorem own_apart' {W : World} {B C : Nat} {s r : Value} {bk : List Va} {rs : List Tr} (h : OwnVs W B s bk) (k : OwnRs W C r rs) : s.ownBlock = none ∨ s.ownBlock ≠ r.ownBlock := by
  rcases h.2 with ⟨h1, _⟩ | ⟨g, cap, cur, h1, _, h3, _⟩
  · rw [h1]; exact .inl rfl
  · right
    rw [h1]
    exact ownsRow_far (g := g) (cs := cur) k h3 (by decide)
theorem ExLoop.backed {Wb W U : World} {S : BitVec 128} {s r s' : Value} {bk : List Va} {rs : List Tr} {v : Va} (h : ExLoop Wb W S s r bk rs) (ho : OwnVs U (Wb.heap.size + 1) s' (bk ++ [v])) (hg : W.grownBy U s.ownBlock) (hat : s'.ownBlock = s.ownBlock ∨ s'.ownBlock = some W.heap.size) : ExLoop Wb U S s' r (bk ++ [v]) rs :=
  ⟨h.below.grown hg h.below.size (fun j hj => Nat.le_trans (Nat.le_succ _) (h.back.lt j hj).1), lies_grown hg h.sum (ownsRow_far h.back h.sum (by decide)), ho, h.rows.kept hg (own_apart h.back h.rows), fun x hx => (h.each x hx).move hg (fun _ _ h2 _ => h2) hat (.inl rfl)⟩
theorem ExLoop.rowed {Wb W U : World} {S : BitVec 128} {s r r' : Value} {bk : List Va} {rs : List Tr} {x : Tr} (h : ExLoop Wb W S s r bk rs) (hx : Pend W Wb.heap.size s r x) (ho : OwnRs U (Wb.heap.size + 1) r' (rs ++ [x])) (hg : W.grownBy U r.ownBlock) (hat : r'.ownBlock = r.ownBlock ∨ r'.ownBlock = some W.heap.size) : ExLoop Wb U S s r' bk (rs ++ [x]) :=
  ⟨h.below.grown hg h.below.size (fun j hj => Nat.le_trans (Nat.le_succ _) (h.rows.lt j hj).1), lies_grown hg h.sum (ownsRow_far h.rows h.sum (by decide)), h.back.kept hg (own_apart' h.back h.rows), ho, fun y hy => by
    rcases List.mem_append.1 hy with hy | hy
    · exact (h.each y hy).move hg (fun _ _ _ h3 => h3) (.inl rfl) hat
    · rw [List.mem_singleton] at hy
      rw [hy]
      exact hx.move hg (fun _ _ _ h3 => h3) (.inl rfl) hat⟩
theorem grown_set2 (w : World) (b i j : Nat) (u v : Value) : w.grownBy ((w.setCell ⟨b, i, none⟩ u).setCell ⟨b, j, none⟩ v) (some b) := (grown_setCell w ⟨b, i, none⟩ u).trans (grown_setCell _ ⟨b, j, none⟩ v)
theorem not_own {W : World} {B b : Nat} {e : TypeId} {k n : Nat} {v : Value} {xs : List Value} (h : W.ownsRow B e k v n xs) (hb : b < B) : v.ownBlock = none ∨ v.ownBlock ≠ some b := by
  cases hv : v.ownBlock with
  | none => exact .inl rfl
  | some g =>
    right
    intro e
    have h1 := (h.lt g hv).1
    have h2 : g = b := Option.some.inj e
    omega
theorem Pend.set2 {W : World} {b : Nat} {s r : Value} {x : Tr} (h : Pend W b s r x) (i j : Nat) (u v : Value) : Pend ((W.setCell ⟨b, i, none⟩ u).setCell ⟨b, j, none⟩ v) b s r x :=
  h.move (grown_set2 W b i j u v) (fun k hk _ _ e => hk (by simp; exact Option.some.inj e)) (.inl rfl) (.inl rfl)
theorem ExLoop.summed {Wb W : World} {S T : BitVec 128} {s r : Value} {bk : List Va} {rs : List Tr} (h : ExLoop Wb W S s r bk rs) : ExLoop Wb ((W.setCell ⟨Wb.heap.size, 0, none⟩ (.int .i64 (hiS T))).setCell ⟨Wb.heap.size, 1, none⟩ (.int .u64 (loN T))) T s r bk rs :=
  ⟨below_setCell (below_setCell h.below _ _ (Nat.le_refl _)) _ _ (Nat.le_refl _), (h.sum.set 0 _).set 1 _, h.back.kept (grown_set2 _ _ _ _ _ _) (not_own h.back (Nat.lt_succ_self _)), h.rows.kept (grown_set2 _ _ _ _ _ _) (not_own h.rows (Nat.lt_succ_self _)), fun x hx => (h.each x hx).set2 _ _ _ _⟩
/-- Each row is its bundle's. -/
def Tots (rs : List Tr) (bk : List Va) : Prop := rs.length = bk.length ∧ ∀ (i : Nat) (x : Tr) (v : Va), rs[i]? = some x → bk[i]? = some v → IsTot (Fw v) (ctT x.l)
theorem Tots.snoc {rs : List Tr} {bk : List Va} {x : Tr} {v : Va} (h : Tots rs bk) (hx : IsTot (Fw v) (ctT x.l)) : Tots (rs ++ [x]) (bk ++ [v]) := ⟨by simp [h.1], fun i y u hy hu => by
  by_cases hi : i < rs.length
  · rw [List.getElem?_append_left hi] at hy
    rw [List.getElem?_append_left (by rw [← h.1]; exact hi)] at hu
    exact h.2 i y u hy hu
  · rw [List.getElem?_append_right (by omega)] at hy
    rw [List.getElem?_append_right (by rw [← h.1]; omega), ← h.1] at hu
    obtain ⟨k, hk⟩ : ∃ k, k = i - rs.length := ⟨_, rfl⟩
    rw [← hk] at hy hu
    cases k with
    | zero =>
      simp only [List.getElem?_cons_zero, Option.some.injEq] at hy hu
      rw [← hy, ← hu]
      exact hx
    | succ k => simp at hy⟩
theorem coin_one (v : Va) : coinS [v] = Cw v := by simp [coinS, sumL, Cw]
theorem cts_one (v : Va) : ctsL [v] = ctsOf v := by simp [ctsL]
/-- The names of totals are those of what is summed. -/
theorem tot_names {f : Nm → BitVec 128} {l : List To} {vs : List Va} (h : IsTot f (ctT l)) (hf : FewV vs) (e : ∀ n, f n = sumAt (ctsL vs) n) : ∀ p, p ∈ ctT l → p.1.1.length = 32 ∧ p.1.2.length ≤ 281474976710656 := fun p hp => by
  have h1 := h.says p hp
  obtain ⟨q, hq, e2⟩ := sumAt_mem (by rw [← e, ← h1.1]; exact h1.2)
  have := hf.wide q hq
  rw [e2] at this
  exact this
end Go.Proofs.Ytjngghihciimjaa
