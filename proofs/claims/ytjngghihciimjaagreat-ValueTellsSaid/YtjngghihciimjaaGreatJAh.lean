/-
  What the laws of bundles rest on: rows in new blocks; calls by their bundles.
  What the walks of the kit's flat.. functions rest on: marks in cells, rows that are made, steps of a region.
-/
import Derived.Test.YtjngghihciimjaaGreatJVaw
import Derived.Test.YtjngghihciimjaaGreatJAg
import Derived.Lib.QuietBelow
import Derived.BigQuiet
import Derived.Deep.DeepMust
import Derived.Deep.Cut
namespace Go.Proofs.YtjngghihciimjaaGreat
set_option maxRecDepth 100000
open Go.RowKit Go.Sort Go.Maps

theorem tri_row (w : World) (a b c : Va) (ha : VaOk w a) (hb : VaOk w b) (hc : VaOk w c) :
    RowV (w.alloc (.cells #[.int .i64 a.coin, .slice a.pa a.l.length a.c, .int .i64 b.coin, .slice b.pa b.l.length b.c, .int .i64 c.coin, .slice c.pa c.l.length c.c] 24)) (some ⟨w.heap.size, 0, none⟩) [a, b, c] :=
  rowV_of (Lies.new w _ 24) rfl (fun v hv => by
    have hb1 := (Below.refl w.heap.size w).alloc (Nat.le_refl _) (.cells #[.int .i64 a.coin, .slice a.pa a.l.length a.c, .int .i64 b.coin, .slice b.pa b.l.length b.c, .int .i64 c.coin, .slice c.pa c.l.length c.c] 24)
    rcases List.mem_cons.1 hv with rfl | hv
    · exact ha.below hb1 (Nat.le_refl _)
    · rcases List.mem_cons.1 hv with rfl | hv
      · exact hb.below hb1 (Nat.le_refl _)
      · rw [List.mem_singleton] at hv
        rw [hv]
        exact hc.below hb1 (Nat.le_refl _)) (show 3 ≤ maxLen by decide)
theorem duo_row (w : World) (a b : Va) (ha : VaOk w a) (hb : VaOk w b) :
    RowV (w.alloc (.cells #[.int .i64 a.coin, .slice a.pa a.l.length a.c, .int .i64 b.coin, .slice b.pa b.l.length b.c] 24)) (some ⟨w.heap.size, 0, none⟩) [a, b] :=
  rowV_of (Lies.new w _ 24) rfl (fun v hv => by
    have hb1 := (Below.refl w.heap.size w).alloc (Nat.le_refl _) (.cells #[.int .i64 a.coin, .slice a.pa a.l.length a.c, .int .i64 b.coin, .slice b.pa b.l.length b.c] 24)
    rcases List.mem_cons.1 hv with rfl | hv
    · exact ha.below hb1 (Nat.le_refl _)
    · rw [List.mem_singleton] at hv
      rw [hv]
      exact hb.below hb1 (Nat.le_refl _)) (show 2 ≤ maxLen by decide)
theorem same_m (w : World) (a b : Va) (ha : Row w a.pa a.l) (hb : Row w b.pa b.l) :
    Calls Tryz.prog 12 #[.agg #[.int .i64 a.coin, .slice a.pa a.l.length a.c], .agg #[.int .i64 b.coin, .slice b.pa b.l.length b.c]] w fun e w' => e = .returned (.bool (sameB a.coin b.coin a.l b.l)) ∧ Below w.heap.size w w' := sameV_any w a.coin b.coin a.pa b.pa a.l b.l a.c b.c ha hb
theorem sameB_yes (x : Int) (l : List As) : sameB x x l l = true := by simp [sameB]
theorem right_m (w : World) (a : Va) (ha : Row w a.pa a.l) :
    Calls Tryz.prog 14 #[.agg #[.int .i64 a.coin, .slice a.pa a.l.length a.c]] w fun e w' => e = .returned (.bool (rightV a)) ∧ Below w.heap.size w w' := right_any w a.coin a.pa a.l a.c ha
theorem cov_m (w : World) (a b : Va) (ha : VaOk w a) (hb : VaOk w b) (hz : ∃ coin l, SubZ a b coin l) :
    Calls Tryz.prog 13 #[.agg #[.int .i64 a.coin, .slice a.pa a.l.length a.c], .agg #[.int .i64 b.coin, .slice b.pa b.l.length b.c]] w fun e w' => e = .returned (.bool true) ∧ Below w.heap.size w w' :=
  (covers_any w a b ha hb).mono fun e w' hh => by
    obtain ⟨h1 | h1, h2⟩ := hh
    · exact ⟨h1.choose_spec.choose_spec.2, h2⟩
    · obtain ⟨coin, l, hz⟩ := hz
      exact absurd hz (h1.1 coin l)
theorem of_m (w : World) (a : Va) (p t : List UInt8) (ha : Row w a.pa a.l) (hp : p.length = 32) (ht : t.length ≤ maxLen) :
    Calls Tryz.prog 18 #[.agg #[.int .i64 a.coin, .slice a.pa a.l.length a.c], .agg (B8 p), .string (txt t)] w fun e w' => e = .returned (.int .i64 (amtOf a.l (p, t))) ∧ Below w.heap.size w w' := of_any w a.coin a.pa a.l a.c p t ha hp ht
theorem add_r (w : World) (vs : List Va) (g : Nat) (h : RowV w (some ⟨g, 0, none⟩) vs) (hn : vs.length ≤ 1000) :
    Calls Tryz.prog 24 #[.slice (some ⟨g, 0, none⟩) vs.length vs.length] w fun e w' => (∃ (ok : Bool) (S : Va), e = .returned (.tuple #[.agg #[.int .i64 S.coin, .slice S.pa S.l.length S.c], .bool ok]) ∧ Row w' S.pa S.l ∧ AddM vs ok S.coin S.l) ∧ Below w.heap.size w w' :=
  (add_m w _ vs vs.length h hn).mono fun e w' hh => by
    obtain ⟨⟨ok, coin, l, p, c, h1, h2, h3⟩, h4⟩ := hh
    exact ⟨⟨ok, ⟨coin, p, l, c⟩, h1, h2, h3⟩, h4⟩
theorem sub_r (w : World) (a b : Va) (ha : VaOk w a) (hb : VaOk w b) :
    Calls Tryz.prog 10 #[.agg #[.int .i64 a.coin, .slice a.pa a.l.length a.c], .agg #[.int .i64 b.coin, .slice b.pa b.l.length b.c]] w fun e w' => (∃ (ok : Bool) (S : Va), e = .returned (.tuple #[.agg #[.int .i64 S.coin, .slice S.pa S.l.length S.c], .bool ok]) ∧ Row w' S.pa S.l ∧ SubM a b ok S.coin S.l) ∧ Below w.heap.size w w' :=
  (sub_m w a b ha hb).mono fun e w' hh => by
    obtain ⟨⟨ok, coin, l, p, c, h1, h2, h3⟩, h4⟩ := hh
    exact ⟨⟨ok, ⟨coin, p, l, c⟩, h1, h2, h3⟩, h4⟩
theorem AddM.ok_of {vs us : List Va} (ht : ∀ coin l, AddZ vs coin l ↔ AddZ us coin l) {ok is : Bool} {x y : Int} {l m : List As} (h : AddM vs ok x l) (k : AddM us is y m) : is = ok ∧ y = x ∧ m = l := by
  rcases h with ⟨rfl, h2⟩ | ⟨rfl, rfl, rfl, h4⟩
  · obtain ⟨e1, e2, e3⟩ := k.yes ((ht _ _).1 h2)
    exact ⟨e1, e2, e3⟩
  · exact k.no fun coin l hz => h4 coin l ((ht _ _).2 hz)
theorem turn_iff (a b c : Va) (coin : Int) (l : List As) : AddZ [a, b, c] coin l ↔ AddZ [c, b, a] coin l := ⟨add_turn, add_turn⟩
theorem AddM.vaOk {w : World} {vs : List Va} {ok : Bool} {S : Va} (h : AddM vs ok S.coin S.l) (hr : Row w S.pa S.l) : VaOk w S := by
  rcases h with ⟨_, _, h2, h3, _⟩ | ⟨_, h2, _, _⟩
  · have := fits_nat h2
    exact ⟨by omega, by omega, hr⟩
  · exact ⟨by omega, by omega, hr⟩
theorem wpList_load_rowG {P : Program} {ops : Array Oper} {rest : List Oper} {o : Oper} {a : Act} {w : World} {Q : Exit → Act → World → Prop} (hw : Region.wanted o (yielded ops a.tmps) = true) (ty : TypeId) (x : Operand) (ho : o.op = .load ty x)
    (g : Nat) (hx : a.eval x = .pointer (some ⟨g, 0, none⟩)) (t : TypeId) (cs : Array Value) (fr : Nat × Nat) (d : TypeDesc) (hg : w.heap[g]? = some (.cells cs t fr))
    (hu : P.underlying ty = some d) (hd : (match d with | .struct _ | .array _ _ => true | _ => false) = true) (hi : (P.info? ty).map (·.size) = some cs.size)
    (h : wpList P ops Q rest (a.put o.dst (.agg cs)) w) : wpList P ops Q (o :: rest) a w := by
  unfold wpList
  rw [if_pos hw]
  exact .inl (wp_load_row ty x ho g hx t cs fr d hg hu hd hi h)
end Go.Proofs.YtjngghihciimjaaGreat
namespace Go.Proofs.YtjngghihciimjaaGreat
set_option maxRecDepth 100000
open Go.RowKit Go.Sort Go.Maps

/-- A store of a whole element, in a region of open order. -/
theorem wpOp_storeE {P : Program} {ops : Array Oper} {Q : Exit → Act → World → Prop} {i : Nat} {o : Oper} {a : Act} {w : World} {K : Act → World → Prop} (hi : ops[i]? = some o) (hg : o.guard = none) (hd : o.dst = none) (t : TypeId) (x y : Operand) (ho : o.op = .store t x y)
    (b off : Nat) (X : Array Value) (hx : a.eval x = .pointer (some ⟨b, off, none⟩)) (hy : a.eval y = .agg X) (ht : w.there b off X.size) (hs : (P.info? t).map (·.size) = some X.size) (h1 : X.all (·.oneCell') = true) (h : K a (w.setCells b off X.toList)) : wpOp P ops Q i K a w := by
  refine wpOp_wp hi hg (wp_store_mid t x y ho b off X hx hy ht hs h1 ?_)
  rw [hd]
  exact h
theorem wpQuiet_loadE {P : Program} {w : World} {ops : Array Oper} {rest : List Oper} {o : Oper} {a : Act} {Q : Act → Prop} (hw : Region.wanted o (yielded ops a.tmps) = true) (t : TypeId) (x : Operand) (ho : o.op = .load t x) (b off : Nat) (hx : a.eval x = .pointer (some ⟨b, off, none⟩))
    (X : Array Value) (d : TypeDesc) (hl : w.rangeAt b off X.toList) (hb : b < w.heap.size) (hu : P.underlying t = some d) (hd : d.isRow = true) (hi : (P.info? t).map (·.size) = some X.size)
    (h : wpQuiet P ops (fun w' => ∃ p : Regrown, w' = grow (redrawn w p.d) p.os) Q rest (a.put o.dst (.agg X))) : wpQuiet P ops (fun w' => ∃ p : Regrown, w' = grow (redrawn w p.d) p.os) Q (o :: rest) a := by
  unfold wpQuiet
  rw [if_pos hw]
  refine ⟨.agg X, fun w' ⟨p, e⟩ => ?_, h⟩
  have hr : (grow (redrawn w p.d) p.os).rangeAt b off X.toList := fun j v hv => (cell_block ((below_regrown w p.d p.os).block b hb) _).trans (hl j v hv)
  rw [← e] at hr
  unfold Oper.quietAt execOp
  have hrun := run_loadVar_mid (P := P) w' b off t X.toList d hr hu hd (by rw [Array.length_toList]; exact hi)
  simp only [ho, hx, Instr.loadAt, Instr.sureAddr, Sem.run_bind, Sem.run_pure, Result.andThen_ok, hrun]
  exact ⟨rfl, by simp⟩
theorem list_one {X : Array Value} (h : X.all (·.oneCell') = true) : ∀ u ∈ X.toList, u.oneCell' = true := by
  intro u hu
  rw [Array.all_eq_true_iff_forall_mem] at h
  exact h u (Array.mem_toList_iff.1 hu)
theorem made_one (x : Value) (hx : x.cells = #[x]) (n i : Nat) (hi : i < n) : (madeCells x.cells n)[i]? = some x := by
  unfold madeCells
  rw [hx]
  simp [hi, Nat.mod_one]
theorem make_rows_of (t s : TypeId) (ht : Tryz.prog.underlying t = some (.slice s)) (hs : (Tryz.prog.info? s).map (fun i => (i.zero, i.size, i.bytes)) = some (some (.slice none 0 0), 1, 24)) (n : Nat) (w : World) (hn : n ≤ 1000) :
    ∃ cs : Array Value, cs.size = n ∧ (∀ i, i < n → cs[i]? = some (.slice none 0 0)) ∧ (Instr.makeSlice t (.int .i64 n) (.int .i64 n)).run Tryz.prog w = .ok (.slice (some ⟨w.heap.size, 0, none⟩) n n) (w.alloc (.cells cs s)) := by
  cases hi : Tryz.prog.info? s with
  | none => rw [hi] at hs; simp at hs
  | some i =>
    rw [hi] at hs
    simp only [Option.map_some, Option.some.injEq, Prod.mk.injEq] at hs
    obtain ⟨h1, h2, h3⟩ := hs
    have := run_makeSlice (P := Tryz.prog) (w := w) t s i (.slice none 0 0) ht hi h1 .i64 .i64 n n (by omega) (by omega) (by rw [h2]; simp; omega) (by rw [h3]; omega) (by omega)
    rw [h2] at this
    simp only [Int.toNat_natCast, Nat.mul_one] at this
    exact ⟨_, size_madeCells _ _, fun j hj => made_one (.slice none 0 0) rfl n j hj, this⟩
theorem make64_of (t s : TypeId) (ht : Tryz.prog.underlying t = some (.slice s)) (sz b : Nat) (hs : (Tryz.prog.info? s).map (fun i => (i.zero.map (·.cells.size), i.size, i.bytes)) = some (some sz, sz, b)) (h1 : sz ≤ 100) (h2 : b ≤ 1000) (w : World) :
    ∃ cs : Array Value, cs.size = 64 * sz ∧ (Instr.makeSlice t (.int .i64 64) (.int .i64 64)).run Tryz.prog w = .ok (.slice (some ⟨w.heap.size, 0, none⟩) 64 64) (w.alloc (.cells cs s)) := by
  obtain ⟨i0, z, hi0, hz0, hz1, hz2, _⟩ := info_parts hs
  have := run_makeSlice (P := Tryz.prog) (w := w) t s i0 z ht hi0 hz0 .i64 .i64 64 64 (by omega) (by omega) (by rw [hz1]; simp; omega) (by rw [hz2]; omega) (by omega)
  exact ⟨_, by rw [size_madeCells, hz1]; rfl, this⟩
/-- The asset that a mark is, in cells. -/
def mkAc (k i : Nat) : Array Value := asC (mkA k i)
theorem mkAc_size (k i : Nat) : (mkAc k i).size = 34 := asC_size _ rfl
theorem mkAc_one (k i : Nat) : (mkAc k i).all (·.oneCell') = true := asC_one _
theorem mkAc_any (w : World) (k i : Nat) (hk : k ≤ 100000) (hi : i ≤ 1000000) : Calls Tryz.prog 65 #[.int .i64 k, .int .i64 i] w fun e w' => e = .returned (.agg (mkAc k i)) ∧ Below w.heap.size w w' := markAsset_gen w k i hk hi
theorem mkAc_eq (k i : Nat) : ∀ W, (Op.equalIn 10000 38 (.agg (mkAc k i)) (.agg (mkAc k i))).run Tryz.prog W = .ok true W := fun W => by
  have := eq_as W (mkA k i) (mkA k i) (mkA_ok k i) (mkA_ok k i)
  rw [decide_eq_true rfl] at this
  exact this
theorem infoSA : (Tryz.prog.info? 38).map (·.size) = some 34 := info_asset
theorem make_rowsA (n : Nat) (w : World) (hn : n ≤ 1000) : ∃ cs : Array Value, cs.size = n ∧ (∀ i, i < n → cs[i]? = some (.slice none 0 0)) ∧ (Instr.makeSlice 98 (.int .i64 n) (.int .i64 n)).run Tryz.prog w = .ok (.slice (some ⟨w.heap.size, 0, none⟩) n n) (w.alloc (.cells cs 22)) :=
  make_rows_of _ _ Tryz.underlying98 (by kernel_rfl) n w hn
theorem make64A (w : World) : ∃ cs : Array Value, cs.size = 64 * 34 ∧ (Instr.makeSlice 22 (.int .i64 64) (.int .i64 64)).run Tryz.prog w = .ok (.slice (some ⟨w.heap.size, 0, none⟩) 64 64) (w.alloc (.cells cs 38)) :=
  make64_of _ _ Tryz.underlying22 34 56 info54 (by decide) (by decide) w
theorem mkVc_size (k i : Nat) : (mkVc k i).size = 2 := rfl
theorem mkVc_one (k i : Nat) : (mkVc k i).all (·.oneCell') = true := by simp [mkVc, Value.oneCell']
theorem infoSV : (Tryz.prog.info? 24).map (·.size) = some 2 := info_value
theorem infoV : (Tryz.prog.info? 24).map (fun i => (i.zero.map (·.cells.size), i.size, i.bytes)) = some (some 2, 2, 32) := by kernel_rfl
theorem make_rowsV (n : Nat) (w : World) (hn : n ≤ 1000) : ∃ cs : Array Value, cs.size = n ∧ (∀ i, i < n → cs[i]? = some (.slice none 0 0)) ∧ (Instr.makeSlice 40 (.int .i64 n) (.int .i64 n)).run Tryz.prog w = .ok (.slice (some ⟨w.heap.size, 0, none⟩) n n) (w.alloc (.cells cs 28)) :=
  make_rows_of _ _ Tryz.underlying40 (by kernel_rfl) n w hn
theorem make64V (w : World) : ∃ cs : Array Value, cs.size = 64 * 2 ∧ (Instr.makeSlice 28 (.int .i64 64) (.int .i64 64)).run Tryz.prog w = .ok (.slice (some ⟨w.heap.size, 0, none⟩) 64 64) (w.alloc (.cells cs 24)) :=
  make64_of _ _ Tryz.underlying28 2 32 infoV (by decide) (by decide) w
theorem sameVc_any (k i : Nat) : ∀ W, Calls Tryz.prog 12 #[.agg (mkVc k i), .agg (mkVc k i)] W fun e w' => e = .returned (.bool true) ∧ Below W.heap.size W w' := fun W =>
  (same_m W ⟨mkN k i, none, [], 0⟩ ⟨mkN k i, none, [], 0⟩ (row_nil W) (row_nil W)).mono fun e w' hh => ⟨by rw [hh.1, sameB_yes], hh.2⟩
end Go.Proofs.YtjngghihciimjaaGreat
