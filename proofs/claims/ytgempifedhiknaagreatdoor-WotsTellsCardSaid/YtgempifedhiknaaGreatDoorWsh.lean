/-
  Two messages: where their first 16 bytes differ, some digit is below and some above. Plain mathematics.
  The digits of a message, as the law reckons them (17).
  Two calls whose order Go leaves open, behind what was taken first: their values assigned, or stored into two new rows of one cell. No condition.
  Rows of 35 hashes that are the same are told to be the same (19).
-/
import Derived.Test.YtgempifedhiknaaGreatDoorWdig
import Derived.Test.YtgempifedhiknaaGreatDoorWsame
import Derived.Maps.AppendAt
import Derived.Deep.QuietTactic
import Derived.BigQuiet
import Derived.Outline
import Derived.Test.YtgempifedhiknaaGreatDoorWawk
import Derived.Lib.QuietBelow
import Derived.IntWalk
namespace Go.Proofs.YtgempifedhiknaaGreatDoor
set_option maxRecDepth 100000
open Go.RowKit Sha

theorem left_le {a b : List UInt8} : ∀ n, (∀ i, i < n → wdig a i ≤ wdig b i) → leftD b n ≤ leftD a n
  | 0, _ => Nat.le_refl _
  | n + 1, h => by
    have h1 := left_le n fun i hi => h i (by omega)
    have h2 := h n (by omega)
    simp only [leftD]; omega
theorem left_lt {a b : List UInt8} (k : Nat) (hk : wdig a k < wdig b k) : ∀ n, k < n → (∀ i, i < n → wdig a i ≤ wdig b i) → leftD b n < leftD a n
  | 0, h, _ => by omega
  | n + 1, hkn, h => by
    have h2 := wdig_lt b n
    have h3 := h n (by omega)
    simp only [leftD]
    by_cases e : k = n
    · subst e
      have := left_le (a := a) (b := b) k fun i hi => h i (by omega)
      omega
    · have := left_lt k hk n (by omega) fun i hi => h i (by omega)
      omega
theorem digit_w (m : List UInt8) (i : Nat) (h : i < 32) : digit m i = wdig m i := by unfold digit; rw [if_pos h]
theorem digit_a (m : List UInt8) : digit m 32 = leftD m 32 / 256 := by unfold digit; rw [if_neg (by omega), if_pos rfl]
theorem digit_b (m : List UInt8) : digit m 33 = leftD m 32 / 16 % 16 := by unfold digit; rw [if_neg (by omega), if_neg (by omega), if_pos rfl]
theorem digit_c (m : List UInt8) : digit m 34 = leftD m 32 % 16 := by unfold digit; rw [if_neg (by omega), if_neg (by omega), if_neg (by omega)]
theorem tail_le {a b : List UInt8} (h : ∀ i, i < 35 → digit a i ≤ digit b i) : leftD a 32 ≤ leftD b 32 := by
  have h1 := h 32 (by omega)
  have h2 := h 33 (by omega)
  have h3 := h 34 (by omega)
  rw [digit_a, digit_a] at h1
  rw [digit_b, digit_b] at h2
  rw [digit_c, digit_c] at h3
  have ha := leftD_le a 32
  have hb := leftD_le b 32
  generalize leftD a 32 = x at *
  generalize leftD b 32 = y at *
  omega
theorem wdig_ne {a b : List UInt8} (j : Nat) (h : a.getD j 0 ≠ b.getD j 0) : wdig a (2 * j) ≠ wdig b (2 * j) ∨ wdig a (2 * j + 1) ≠ wdig b (2 * j + 1) := by
  have e1 : (2 * j + 1) / 2 = j := by omega
  have e2 : 2 * j / 2 = j := by omega
  unfold wdig
  rw [if_pos (by omega), if_pos (by omega), if_neg (by omega), if_neg (by omega), e1, e2]
  have hn : (a.getD j 0).toNat ≠ (b.getD j 0).toNat := fun e => h (UInt8.toNat_inj.1 e)
  omega
theorem some_below {a b : List UInt8} (h : ∃ j, j < 16 ∧ a.getD j 0 ≠ b.getD j 0) : ∃ i, i < 35 ∧ digit a i < digit b i := by
  apply Classical.byContradiction
  intro hn
  have hle : ∀ i, i < 35 → digit b i ≤ digit a i := fun i hi => by
    apply Decidable.byContradiction
    intro hc
    exact hn ⟨i, hi, by omega⟩
  obtain ⟨j, hj, hne⟩ := h
  have hw : ∀ i, i < 32 → wdig b i ≤ wdig a i := fun i hi => by
    have := hle i (by omega)
    rwa [digit_w _ i hi, digit_w _ i hi] at this
  have hlt : ∃ k, k < 32 ∧ wdig b k < wdig a k := by
    rcases wdig_ne j hne with e | e
    · exact ⟨2 * j, by omega, by have := hw (2 * j) (by omega); omega⟩
    · exact ⟨2 * j + 1, by omega, by have := hw (2 * j + 1) (by omega); omega⟩
  obtain ⟨k, hk, hk2⟩ := hlt
  have h1 := left_lt k hk2 32 hk hw
  have h2 := tail_le hle
  omega
theorem left_same {a b : List UInt8} : ∀ n, (∀ i, i < n → wdig a i = wdig b i) → leftD a n = leftD b n
  | 0, _ => rfl
  | n + 1, h => by simp only [leftD]; rw [left_same n fun i hi => h i (by omega), h n (by omega)]
theorem digit_same {a b : List UInt8} (h : ∀ j, j < 16 → a.getD j 0 = b.getD j 0) (i : Nat) : digit a i = digit b i := by
  have hw : ∀ i, i < 32 → wdig a i = wdig b i := fun i hi => by unfold wdig; rw [h (i / 2) (by omega)]
  have hl := left_same 32 hw
  unfold digit
  rw [hl]
  by_cases hi : i < 32
  · rw [if_pos hi, if_pos hi, hw i hi]
  · rw [if_neg hi, if_neg hi]
/-- Are the first k bytes the same? -/
def sameTo (a b : List UInt8) (k : Nat) : Bool := (List.range k).all fun j => a.getD j 0 == b.getD j 0
theorem sameTo_succ (a b : List UInt8) (k : Nat) : sameTo a b (k + 1) = (sameTo a b k && (a.getD k 0 == b.getD k 0)) := by
  unfold sameTo
  rw [List.range_succ, List.all_append]
  simp
theorem sameTo_yes {a b : List UInt8} {k : Nat} (h : sameTo a b k = true) : ∀ j, j < k → a.getD j 0 = b.getD j 0 := fun j hj => by
  unfold sameTo at h
  rw [List.all_eq_true] at h
  exact beq_iff_eq.1 (h j (List.mem_range.2 hj))
theorem sameTo_no {a b : List UInt8} {k : Nat} (h : sameTo a b k = false) : ∃ j, j < k ∧ a.getD j 0 ≠ b.getD j 0 := by
  unfold sameTo at h
  rw [List.all_eq_false] at h
  obtain ⟨j, hj, hne⟩ := h
  exact ⟨j, List.mem_range.1 hj, fun e => hne (beq_iff_eq.2 e)⟩
/-- Is some digit of the first k below? -/
def lowTo (a b : List UInt8) (k : Nat) : Bool := (List.range k).any fun j => decide (digit a j < digit b j)
theorem lowTo_succ (a b : List UInt8) (k : Nat) : lowTo a b (k + 1) = (lowTo a b k || decide (digit a k < digit b k)) := by
  unfold lowTo
  rw [List.range_succ, List.any_append]
  simp
theorem lowTo_no {a b : List UInt8} (h : sameTo a b 16 = true) (k : Nat) : lowTo a b k = false := by
  unfold lowTo
  rw [List.any_eq_false]
  intro j _
  rw [digit_same (sameTo_yes h) j]
  simp
theorem lowTo_yes {a b : List UInt8} (h : sameTo a b 16 = false) : lowTo a b 35 = true := by
  obtain ⟨i, hi, hlt⟩ := some_below (sameTo_no h)
  unfold lowTo
  rw [List.any_eq_true]
  exact ⟨i, List.mem_range.2 hi, by simpa using hlt⟩
theorem sameTo_symm (a b : List UInt8) (k : Nat) : sameTo a b k = sameTo b a k := by
  unfold sameTo
  congr 1
  funext j
  rw [Bool.eq_iff_iff, beq_iff_eq, beq_iff_eq]
  exact eq_comm
end Go.Proofs.YtgempifedhiknaaGreatDoor
namespace Go.Proofs.YtgempifedhiknaaGreatDoor
set_option maxRecDepth 100000
open Go.RowKit Go.Shelf Sha

/-- Numbers in a slice of the call's own. -/
def RowI (w0 : World) (vs : List Value) (v : Value) (w : World) : Prop := w.ownsRow w0.heap.size 3 1 v vs.length vs ∧ Below w0.heap.size w0 w
theorem info3 : (Tryz.prog.info? 3).map (fun i => (i.zero, i.size, i.bytes)) = some (some (.int .i64 0), 1, 8) := by kernel_rfl
theorem wpList_pushI {w0 w : World} {ops : Array Oper} {rest : List Oper} {o : Oper} {a : Act} {Q : Exit → Act → World → Prop} (hgd : o.guard = none) (sx x : Operand)
    (ho : o.op = .call { callee := .builtin .append, args := #[sx, x], argTypes := #[50, 50] }) (vs us : List Value) (v : Value) (n : Nat) (hn : us.length = n) (h1 : ∀ u, u ∈ us → u.oneCell' = true)
    (hs : a.eval sx = v) (hx : a.eval x = .slice (some ⟨w.heap.size, 0, none⟩) n n) (hl : vs.length + n ≤ 2000000) (h : RowI w0 vs v w)
    (k : ∀ v' w', Hid (RowI w0 (vs ++ us) v' w') → wpList Tryz.prog ops Q rest (a.put o.dst v') w') : wpList Tryz.prog ops Q (o :: rest) a (w.alloc (.cells us.toArray 3)) := by
  obtain ⟨i0, hi0, hz0, hz1, hz2⟩ := info_parts info3
  refine wpList_append_own _ hgd sx x 50 ho w0.heap.size 3 i0 (.int .i64 0) 1 8 Tryz.underlying50 hi0 hz0 hz1 hz2 rfl (by decide) v vs.length vs hs (h.1.alloc _) ⟨w.heap.size, 0, none⟩ n n us hx (by rw [hn]; omega) ?_ h1 (by unfold maxLen; omega) (by omega) (by have := h.2.size; simp; omega) ?_
  · exact World.news_of_block (cs := us.toArray) (t := 3) (fr := (0, 0)) (heap_alloc_new w _)
  · intro v' w' hown hgrow _
    refine k v' w' (Lib.hid ⟨?_, ?_⟩)
    · rw [List.length_append, hn]; exact hown
    · exact (h.2.alloc h.2.size _).grown hgrow (by have := h.2.size; simp; omega) (fun j e => (h.1.lt j e).1)
/-- The first n digits, as values. -/
def wvals (m : List UInt8) (n : Nat) : List Value := (List.range n).map fun i => .int .i64 (wdig m i)
theorem wvals_length (m : List UInt8) (n : Nat) : (wvals m n).length = n := by simp [wvals]
theorem wvals_two (m : List UInt8) (j : Nat) (a b : Int) (ha : a = wdig m (2 * j)) (hb : b = wdig m (2 * j + 1)) : wvals m (2 * j) ++ [.int .i64 a, .int .i64 b] = wvals m (2 * (j + 1)) := by
  subst ha hb
  have e : 2 * (j + 1) = 2 * j + 1 + 1 := by omega
  unfold wvals
  rw [e, List.range_succ, List.range_succ]
  simp
/-- All digits, as values. -/
def dvals (m : List UInt8) : List Value := (List.range 35).map fun i => .int .i64 (digit m i)
theorem dvals_all (m : List UInt8) (a b c : Int) (ha : a = digit m 32) (hb : b = digit m 33) (hc : c = digit m 34) : wvals m 32 ++ [.int .i64 a, .int .i64 b, .int .i64 c] = dvals m := by
  subst ha hb hc
  have e : (List.range 35) = List.range 32 ++ [32, 33, 34] := by decide
  unfold dvals wvals
  rw [e, List.map_append]
  congr 1
/-- Numbers stand in a block. -/
def Ints (w : World) (g : Nat) (f : Nat → Nat) : Prop := g < w.heap.size ∧ ∀ i, i < 35 → w.cell? ⟨g, i, none⟩ = some (.int .i64 (f i))
theorem Ints.below {B : Nat} {w w' : World} {g : Nat} {f : Nat → Nat} (h : Ints w g f) (hb : Below B w w') (hg : g < B) : Ints w' g f :=
  ⟨Nat.lt_of_lt_of_le h.1 hb.size, fun i hi => (hb.cell (p := ⟨g, i, none⟩) hg).trans (h.2 i hi)⟩
/-- What a message's digits are told as. -/
def DigV (m : List UInt8) (v : Value) (w : World) : Prop := ∃ g c, v = .slice (some ⟨g, 0, none⟩) 35 c ∧ 35 ≤ c ∧ Ints w g (digit m)
theorem RowI.dig {w0 w : World} {m : List UInt8} {v : Value} (h : RowI w0 (dvals m) v w) : DigV m v w := by
  have hl : (dvals m).length = 35 := by simp [dvals]
  rcases h.1.2 with ⟨_, h0⟩ | ⟨g, cap, cur, e, hb, hg, h1, h2⟩
  · rw [h0] at hl; cases hl
  · refine ⟨g, cap, by rw [e, hl], by omega, (Array.getElem?_eq_some_iff.1 hg).1, fun i hi => ?_⟩
    have := h.1.cells (g := g) (by rw [e]; rfl) i (.int .i64 (digit m i)) (by simp [dvals, List.getElem?_range hi])
    rwa [Addr.add_mid, Nat.zero_add] at this
theorem wd_even (m : List UInt8) (j : Nat) : wdig m (2 * j) = (m.getD j 0).toNat / 16 := by
  unfold wdig; rw [if_pos (by omega), show 2 * j / 2 = j by omega]
theorem wd_odd (m : List UInt8) (j : Nat) : wdig m (2 * j + 1) = (m.getD j 0).toNat % 16 := by
  unfold wdig; rw [if_neg (by omega), show (2 * j + 1) / 2 = j by omega]
/-- What is left of 480. -/
def restD (m : List UInt8) (j : Nat) : Nat := leftD m (2 * j) + 15 * (32 - 2 * j)
theorem restD_le (m : List UInt8) (j : Nat) (h : j ≤ 16) : restD m j ≤ 480 := by
  unfold restD; have := leftD_le m (2 * j); omega
theorem restD_succ (m : List UInt8) (j : Nat) (h : j < 16) : restD m (j + 1) + wdig m (2 * j) + wdig m (2 * j + 1) = restD m j := by
  unfold restD
  have h1 := wdig_lt m (2 * j)
  have h2 := wdig_lt m (2 * j + 1)
  rw [show 2 * (j + 1) = 2 * j + 1 + 1 by omega]
  simp only [leftD]
  omega
end Go.Proofs.YtgempifedhiknaaGreatDoor
namespace Go.Proofs.YtgempifedhiknaaGreatDoor
set_option maxRecDepth 100000
open Go.RowKit Go.Shelf Sha

section
variable {P : Program} {ops : Array Oper} {Q : Exit → Act → World → Prop} {md : Region.Mode} {S : World → Prop}
/-- What holds at each set of operations holds to the end. -/
theorem wpAnyH_inv (I : Array Bool → Act → World → Prop) (hdone : ∀ l a w, I l a w → Region.ready md ops l = [] → Q .normal a w)
    (hstep : ∀ l a w i, I l a w → i ∈ Region.ready md ops l → wpOp P ops Q i (fun a' w' => S w' ∧ I (l.setIfInBounds i true) a' w') a w) :
    ∀ fuel l a w, l.toList.count false ≤ fuel → I l a w → wpAnyH P md ops Q S fuel l a w := by
  intro fuel
  induction fuel with
  | zero =>
    intro l a w hc hI
    have hr : Region.ready md ops l = [] := by
      rw [List.eq_nil_iff_forall_not_mem]
      intro i hi
      have := count_true l i (mem_ready.1 hi).1
      omega
    exact ⟨hr, hdone _ _ _ hI hr⟩
  | succ fuel ih =>
    intro l a w hc hI
    refine ⟨fun h => hdone _ _ _ hI h, fun i hi => wpOp_mono (fun a' w' h' => ⟨h'.1, ih _ a' w' ?_ h'.2⟩) (hstep l a w i hI hi)⟩
    have := count_true l i (mem_ready.1 hi).1
    omega
end

/-! ### Two calls, two assignments -/
/-- What has come up. -/
def CalI (w0 : World) (C1 C2 : Value → World → Prop) (a0 : Act) (s1 s2 p1 p2 : Tmp) (l : Array Bool) (a : Act) (w : World) : Prop :=
  ∃ c1 c2 n1 n2 : Bool, l = #[true, c1, true, c2, n1, n2] ∧ ∃ v1 v2 v3 v4 : Value, a = put4 a0 s1 s2 p1 p2 v1 v2 v3 v4 ∧
    (c1 = true → C1 v1 w) ∧ (c2 = true → C2 v2 w) ∧ (n1 = true → c1 = true ∧ v3 = v1) ∧ (n2 = true → c2 = true ∧ v4 = v2) ∧ Below w0.heap.size w0 w
def calRow (r : List Nat) (c1 c2 n1 n2 : Bool) : Bool :=
  r.all (fun i => (i == 1 && !c1) || (i == 3 && !c2) || (i == 4 && !n1 && c1) || (i == 5 && !n2 && c2)) && (!r.isEmpty || (c1 && c2 && n1 && n2))
def calReadyB (ops : Array Oper) : Bool :=
  [false, true].all fun c1 => [false, true].all fun c2 => [false, true].all fun n1 => [false, true].all fun n2 => calRow (Region.ready .any ops #[true, c1, true, c2, n1, n2]) c1 c2 n1 n2
theorem cal_ready {ops : Array Oper} (h : calReadyB ops = true) (c1 c2 n1 n2 : Bool) :
    (∀ i ∈ Region.ready .any ops #[true, c1, true, c2, n1, n2], i = 1 ∧ c1 = false ∨ i = 3 ∧ c2 = false ∨ i = 4 ∧ n1 = false ∧ c1 = true ∨ i = 5 ∧ n2 = false ∧ c2 = true) ∧
    (Region.ready .any ops #[true, c1, true, c2, n1, n2] = [] → c1 = true ∧ c2 = true ∧ n1 = true ∧ n2 = true) := by
  have h2 := all_two (all_two (all_two (all_two h c1) c2) n1) n2
  generalize Region.ready .any ops #[true, c1, true, c2, n1, n2] = r at h2 ⊢
  unfold calRow at h2
  rw [Bool.and_eq_true, List.all_eq_true] at h2
  refine ⟨fun i hi => ?_, fun e => ?_⟩
  · have := h2.1 i hi
    simp only [Bool.or_eq_true, Bool.and_eq_true, beq_iff_eq, Bool.not_eq_true'] at this
    rcases this with ((h | h) | h) | h
    · exact .inl h
    · exact .inr (.inl h)
    · exact .inr (.inr (.inl ⟨h.1.1, h.1.2, h.2⟩))
    · exact .inr (.inr (.inr ⟨h.1.1, h.1.2, h.2⟩))
  · have := h2.2
    subst e
    simp only [List.isEmpty_nil, Bool.not_true, Bool.false_or, Bool.and_eq_true] at this
    exact ⟨this.1.1.1, this.1.1.2, this.1.2, this.2⟩
/-- A fact on a value that a call tells stays, whatever is made later. -/
def Stays (C : Value → World → Prop) : Prop := ∀ v w w', Below w.heap.size w w' → C v w → C v w'
theorem calls2_any {ops : Array Oper} {Q : Exit → Act → World → Prop} (w0 : World) (C1 C2 : Value → World → Prop) (hC1 : Stays C1) (hC2 : Stays C2) (a0 : Act) (s1 s2 p1 p2 : Tmp)
    (h12 : s1 ≠ s2) (h13 : s1 ≠ p1) (h14 : s1 ≠ p2) (h23 : s2 ≠ p1) (h24 : s2 ≠ p2) (h34 : p1 ≠ p2) (z1 : s1 < a0.tmps.size) (z2 : s2 < a0.tmps.size)
    (f1 f2 : FuncId) (args1 args2 : Array Value) (o1 o3 o4 o5 : Oper)
    (i1 : ops[1]? = some o1) (gd1 : o1.guard = none) (d1 : o1.dst = some s1) (r1 : ∀ v1 v2 v3 v4 w, (execOp (put4 a0 s1 s2 p1 p2 v1 v2 v3 v4).eval o1).run Tryz.prog w = .ok (.enter f1 args1) w)
    (i3 : ops[3]? = some o3) (gd3 : o3.guard = none) (d3 : o3.dst = some s2) (r3 : ∀ v1 v2 v3 v4 w, (execOp (put4 a0 s1 s2 p1 p2 v1 v2 v3 v4).eval o3).run Tryz.prog w = .ok (.enter f2 args2) w)
    (i4 : ops[4]? = some o4) (gd4 : o4.guard = none) (d4 : o4.dst = some p1) (op4 : o4.op = .assign (.tmp s1))
    (i5 : ops[5]? = some o5) (gd5 : o5.guard = none) (d5 : o5.dst = some p2) (op5 : o5.op = .assign (.tmp s2))
    (hr : calReadyB ops = true)
    (hc1 : ∀ W, Below w0.heap.size w0 W → Calls Tryz.prog f1 args1 W fun e w' => ∃ v, e = .returned v ∧ C1 v w' ∧ Below W.heap.size W w')
    (hc2 : ∀ W, Below w0.heap.size w0 W → Calls Tryz.prog f2 args2 W fun e w' => ∃ v, e = .returned v ∧ C2 v w' ∧ Below W.heap.size W w')
    (hQ : ∀ v1 v2 w', C1 v1 w' → C2 v2 w' → Below w0.heap.size w0 w' → Q .normal (put4 a0 s1 s2 p1 p2 v1 v2 v1 v2) w')
    (w : World) (hb : Below w0.heap.size w0 w) : wpAnyH Tryz.prog .any ops Q (Below w0.heap.size w0) 4 #[true, false, true, false, false, false] a0 w := by
  refine wpAnyH_inv (CalI w0 C1 C2 a0 s1 s2 p1 p2) ?_ ?_ 4 _ _ _ (by decide) ?_
  · rintro l a w1 ⟨c1, c2, n1, n2, rfl, v1, v2, v3, v4, rfl, k1, k2, k3, k4, k5⟩ hnil
    obtain ⟨rfl, rfl, rfl, rfl⟩ := (cal_ready hr c1 c2 n1 n2).2 hnil
    rw [(k3 rfl).2, (k4 rfl).2]
    exact hQ v1 v2 w1 (k1 rfl) (k2 rfl) k5
  · rintro l a w1 i ⟨c1, c2, n1, n2, rfl, v1, v2, v3, v4, rfl, k1, k2, k3, k4, k5⟩ hi
    rcases (cal_ready hr c1 c2 n1 n2).1 i hi with ⟨rfl, e⟩ | ⟨rfl, e⟩ | ⟨rfl, e, e1⟩ | ⟨rfl, e, e1⟩
    · refine wpOp_call i1 gd1 f1 args1 (r1 _ _ _ _ _) (fun v w' => C1 v w' ∧ Below w1.heap.size w1 w') (hc1 w1 k5) ?_
      rintro v w' ⟨hv, hb'⟩
      rw [d1, put4_1 _ _ _ _ _ _ _ _ _ _ h12 h13 h14]
      have hn1 : n1 = false := by
        cases n1
        · rfl
        · have := (k3 rfl).1; rw [e] at this; cases this
      subst hn1
      exact ⟨k5.trans (hb'.mono k5.size), true, c2, false, n2, rfl, v, v2, v3, v4, rfl, fun _ => hv, fun h => hC2 _ _ _ hb' (k2 h), fun h => (by cases h), k4, k5.trans (hb'.mono k5.size)⟩
    · refine wpOp_call i3 gd3 f2 args2 (r3 _ _ _ _ _) (fun v w' => C2 v w' ∧ Below w1.heap.size w1 w') (hc2 w1 k5) ?_
      rintro v w' ⟨hv, hb'⟩
      rw [d3, put4_2 _ _ _ _ _ _ _ _ _ _ h23 h24]
      have hn2 : n2 = false := by
        cases n2
        · rfl
        · have := (k4 rfl).1; rw [e] at this; cases this
      subst hn2
      exact ⟨k5.trans (hb'.mono k5.size), c1, true, n1, false, rfl, v1, v, v3, v4, rfl, fun h => hC1 _ _ _ hb' (k1 h), fun _ => hv, k3, fun h => (by cases h), k5.trans (hb'.mono k5.size)⟩
    · refine wpOp_wp i4 gd4 ?_
      unfold Oper.wp execOp
      simp only [op4, Sem.run_pure, Oper.upon_value]
      rw [d4, put4_3 _ _ _ _ _ _ _ _ _ _ h34, eval4_1 _ _ _ _ _ _ _ _ _ (Ne.symm h12) (Ne.symm h13) (Ne.symm h14) z1]
      exact ⟨k5, c1, c2, true, n2, rfl, v1, v2, v1, v4, rfl, k1, k2, fun _ => ⟨e1, rfl⟩, k4, k5⟩
    · refine wpOp_wp i5 gd5 ?_
      unfold Oper.wp execOp
      simp only [op5, Sem.run_pure, Oper.upon_value]
      rw [d5, put4_4, eval4_2 _ _ _ _ _ _ _ _ _ (Ne.symm h23) (Ne.symm h24) z2]
      exact ⟨k5, c1, c2, n1, true, rfl, v1, v2, v3, v2, rfl, k1, k2, k3, fun _ => ⟨e1, rfl⟩, k5⟩
  · obtain ⟨v1, v2, v3, v4, e⟩ := put4_self a0 s1 s2 p1 p2 h12 h13 h14 h23 h24 h34
    exact ⟨false, false, false, false, rfl, v1, v2, v3, v4, e, fun h => (by cases h), fun h => (by cases h), fun h => (by cases h), fun h => (by cases h), hb⟩

/-! ### Two calls that tell signatures, two new rows, two stores -/
theorem alloc24 (w : World) : (Instr.alloc 28 true (.tuple #[])).run Tryz.prog w = .ok (.pointer (some ⟨w.heap.size, 0, none⟩)) (w.alloc (.cells #[.slice none 0 0] 28)) := by kernel_rfl
theorem wp_alloc24 {Q : Exit → Act → World → Prop} {o : Oper} {a : Act} {w : World} {K : Act → World → Prop} (ho : o.op = .alloc 28) (h : K (a.put o.dst (.pointer (some ⟨w.heap.size, 0, none⟩))) (w.alloc (.cells #[.slice none 0 0] 28))) : o.wp Tryz.prog a w K Q := by
  unfold Oper.wp execOp
  simp only [ho, Sem.run_bind, alloc24, Result.andThen_ok, Sem.run_pure]
  exact h
theorem info24 : (Tryz.prog.info? 28).map (·.size) = some 1 := by kernel_rfl
/-- A signature as it is told. -/
def SigV (F : List UInt8) (v : Value) (w : World) : Prop := ∃ g c cs, v = .agg #[.slice (some ⟨g, 0, none⟩) 35 c] ∧ w.heap[g]? = some (.cells cs 24 (0, 0)) ∧ ∀ j, j < F.length → cs[j]? = some (.int .u8 (F.getD j 0).toNat)
theorem SigV.step {F : List UInt8} {v : Value} {w w' : World} (h : SigV F v w) (hk : ∀ (g : Nat) cs, w.heap[g]? = some (.cells cs 24 (0, 0)) → w'.heap[g]? = some (.cells cs 24 (0, 0))) : SigV F v w' := by
  obtain ⟨g, c, cs, e, h1, h2⟩ := h
  exact ⟨g, c, cs, e, hk _ _ h1, h2⟩
theorem SigV.below {F : List UInt8} {v : Value} {w w' : World} (h : SigV F v w) (hb : Below w.heap.size w w') : SigV F v w' :=
  h.step fun g _ hg => (hb.block g (Array.getElem?_eq_some_iff.1 hg).1).trans hg
theorem SigV.alloc {F : List UInt8} {v : Value} {w : World} (h : SigV F v w) (o : Obj) : SigV F v (w.alloc o) :=
  h.step fun g _ hg => (Below.heap_alloc w o g (Array.getElem?_eq_some_iff.1 hg).1).trans hg
theorem SigV.setRow {F : List UInt8} {v : Value} {w : World} (h : SigV F v w) {b : Nat} {old : Array Value} (hl : Lies w b old 28) (cs' : Array Value) : SigV F v (w.setRow b cs') :=
  h.step fun g cs hg => (setRow_other w b g cs' (fun e => by subst e; unfold Lies at hl; rw [hl] at hg; simp at hg)).trans hg
theorem sigv_of {B : Nat} {F : List UInt8} {v : Value} {w : World} (h : RowH B 35 F v w) : SigV F (.agg #[v]) w := by
  obtain ⟨g, c, rfl, _⟩ := h.shape (by omega)
  obtain ⟨_, _, cs, hcs⟩ := h.block g rfl
  refine ⟨g, c, cs, rfl, hcs, fun j hj => ?_⟩
  have := h.src j hj
  rw [Nat.zero_add, cell_of_row w g j cs 24 (0, 0) hcs] at this
  exact this
/-- What has come up. -/
def SigI (w0 : World) (F1 F2 : List UInt8) (a0 : Act) (s1 s2 p1 p2 : Tmp) (l : Array Bool) (a : Act) (w : World) : Prop :=
  ∃ c1 c2 n1 n2 t1 t2 : Bool, l = #[true, true, c1, true, true, c2, n1, n2, t1, t2] ∧ ∃ (v1 v2 v3 v4 : Value) (g1 g2 : Nat) (x1 x2 : Value), a = put4 a0 s1 s2 p1 p2 v1 v2 v3 v4 ∧
    (c1 = true → SigV F1 v1 w) ∧ (c2 = true → SigV F2 v2 w) ∧
    (n1 = true → v3 = .pointer (some ⟨g1, 0, none⟩) ∧ w0.heap.size ≤ g1 ∧ Lies w g1 #[x1] 28 ∧ (t1 = true → v1 = .agg #[x1])) ∧
    (n2 = true → v4 = .pointer (some ⟨g2, 0, none⟩) ∧ w0.heap.size ≤ g2 ∧ Lies w g2 #[x2] 28 ∧ (t2 = true → v2 = .agg #[x2])) ∧
    (n1 = true → n2 = true → g1 ≠ g2) ∧ Below w0.heap.size w0 w ∧ (t1 = true → n1 = true ∧ c1 = true) ∧ (t2 = true → n2 = true ∧ c2 = true)
def sigRow (r : List Nat) (c1 c2 n1 n2 t1 t2 : Bool) : Bool :=
  r.all (fun i => (i == 2 && !c1) || (i == 5 && !c2) || (i == 6 && !n1) || (i == 7 && !n2) || (i == 8 && !t1 && c1 && n1) || (i == 9 && !t2 && c2 && n2)) && (!r.isEmpty || (c1 && c2 && n1 && n2 && t1 && t2))
def sigReadyB (ops : Array Oper) : Bool :=
  [false, true].all fun c1 => [false, true].all fun c2 => [false, true].all fun n1 => [false, true].all fun n2 => [false, true].all fun t1 => [false, true].all fun t2 =>
    sigRow (Region.ready .any ops #[true, true, c1, true, true, c2, n1, n2, t1, t2]) c1 c2 n1 n2 t1 t2
theorem sig_ready {ops : Array Oper} (h : sigReadyB ops = true) (c1 c2 n1 n2 t1 t2 : Bool) :
    (∀ i ∈ Region.ready .any ops #[true, true, c1, true, true, c2, n1, n2, t1, t2],
      i = 2 ∧ c1 = false ∨ i = 5 ∧ c2 = false ∨ i = 6 ∧ n1 = false ∨ i = 7 ∧ n2 = false ∨ i = 8 ∧ t1 = false ∧ c1 = true ∧ n1 = true ∨ i = 9 ∧ t2 = false ∧ c2 = true ∧ n2 = true) ∧
    (Region.ready .any ops #[true, true, c1, true, true, c2, n1, n2, t1, t2] = [] → c1 = true ∧ c2 = true ∧ n1 = true ∧ n2 = true ∧ t1 = true ∧ t2 = true) := by
  have h2 := all_two (all_two (all_two (all_two (all_two (all_two h c1) c2) n1) n2) t1) t2
  generalize Region.ready .any ops #[true, true, c1, true, true, c2, n1, n2, t1, t2] = r at h2 ⊢
  unfold sigRow at h2
  rw [Bool.and_eq_true, List.all_eq_true] at h2
  refine ⟨fun i hi => ?_, fun e => ?_⟩
  · have := h2.1 i hi
    simp only [Bool.or_eq_true, Bool.and_eq_true, beq_iff_eq, Bool.not_eq_true'] at this
    rcases this with ((((h | h) | h) | h) | h) | h
    · exact .inl h
    · exact .inr (.inl h)
    · exact .inr (.inr (.inl h))
    · exact .inr (.inr (.inr (.inl h)))
    · exact .inr (.inr (.inr (.inr (.inl ⟨h.1.1.1, h.1.1.2, h.1.2, h.2⟩))))
    · exact .inr (.inr (.inr (.inr (.inr ⟨h.1.1.1, h.1.1.2, h.1.2, h.2⟩))))
  · have := h2.2
    subst e
    simp only [List.isEmpty_nil, Bool.not_true, Bool.false_or, Bool.and_eq_true] at this
    exact ⟨this.1.1.1.1.1, this.1.1.1.1.2, this.1.1.1.2, this.1.1.2, this.1.2, this.2⟩
theorem signs2_any {ops : Array Oper} {Q : Exit → Act → World → Prop} (w0 : World) (F1 F2 : List UInt8) (a0 : Act) (s1 s2 p1 p2 : Tmp)
    (h12 : s1 ≠ s2) (h13 : s1 ≠ p1) (h14 : s1 ≠ p2) (h23 : s2 ≠ p1) (h24 : s2 ≠ p2) (h34 : p1 ≠ p2) (z1 : s1 < a0.tmps.size) (z2 : s2 < a0.tmps.size) (z3 : p1 < a0.tmps.size) (z4 : p2 < a0.tmps.size)
    (f : FuncId) (args1 args2 : Array Value) (o2 o5 o6 o7 o8 o9 : Oper)
    (i2 : ops[2]? = some o2) (gd2 : o2.guard = none) (d2 : o2.dst = some s1) (r2 : ∀ v1 v2 v3 v4 w, (execOp (put4 a0 s1 s2 p1 p2 v1 v2 v3 v4).eval o2).run Tryz.prog w = .ok (.enter f args1) w)
    (i5 : ops[5]? = some o5) (gd5 : o5.guard = none) (d5 : o5.dst = some s2) (r5 : ∀ v1 v2 v3 v4 w, (execOp (put4 a0 s1 s2 p1 p2 v1 v2 v3 v4).eval o5).run Tryz.prog w = .ok (.enter f args2) w)
    (i6 : ops[6]? = some o6) (gd6 : o6.guard = none) (d6 : o6.dst = some p1) (op6 : o6.op = .alloc 28)
    (i7 : ops[7]? = some o7) (gd7 : o7.guard = none) (d7 : o7.dst = some p2) (op7 : o7.op = .alloc 28)
    (i8 : ops[8]? = some o8) (gd8 : o8.guard = none) (d8 : o8.dst = none) (op8 : o8.op = .store 28 (.tmp p1) (.tmp s1))
    (i9 : ops[9]? = some o9) (gd9 : o9.guard = none) (d9 : o9.dst = none) (op9 : o9.op = .store 28 (.tmp p2) (.tmp s2))
    (hr : sigReadyB ops = true)
    (hc1 : ∀ W, Below w0.heap.size w0 W → Calls Tryz.prog f args1 W fun e w' => ∃ v, e = .returned v ∧ SigV F1 v w' ∧ Below W.heap.size W w')
    (hc2 : ∀ W, Below w0.heap.size w0 W → Calls Tryz.prog f args2 W fun e w' => ∃ v, e = .returned v ∧ SigV F2 v w' ∧ Below W.heap.size W w')
    (hQ : ∀ v1 v2 g1 g2 x1 x2 w', w0.heap.size ≤ g1 → w0.heap.size ≤ g2 → SigV F1 (.agg #[x1]) w' → SigV F2 (.agg #[x2]) w' → Lies w' g1 #[x1] 28 → Lies w' g2 #[x2] 28 → Below w0.heap.size w0 w' →
      Q .normal (put4 a0 s1 s2 p1 p2 v1 v2 (.pointer (some ⟨g1, 0, none⟩)) (.pointer (some ⟨g2, 0, none⟩))) w')
    (w : World) (hb : Below w0.heap.size w0 w) : wpAnyH Tryz.prog .any ops Q (Below w0.heap.size w0) 6 #[true, true, false, true, true, false, false, false, false, false] a0 w := by
  refine wpAnyH_inv (SigI w0 F1 F2 a0 s1 s2 p1 p2) ?_ ?_ 6 _ _ _ (by decide) ?_
  · rintro l a w1 ⟨c1, c2, n1, n2, t1, t2, rfl, v1, v2, v3, v4, g1, g2, x1, x2, rfl, k1, k2, k3, k4, k5, k6, _, _⟩ hnil
    obtain ⟨rfl, rfl, rfl, rfl, rfl, rfl⟩ := (sig_ready hr c1 c2 n1 n2 t1 t2).2 hnil
    obtain ⟨rfl, b1, y1, e1⟩ := k3 rfl
    obtain ⟨rfl, b2, y2, e2⟩ := k4 rfl
    have q1 := k1 rfl
    have q2 := k2 rfl
    rw [e1 rfl] at q1
    rw [e2 rfl] at q2
    exact hQ _ _ g1 g2 x1 x2 w1 b1 b2 q1 q2 y1 y2 k6
  · rintro l a w1 i ⟨c1, c2, n1, n2, t1, t2, rfl, v1, v2, v3, v4, g1, g2, x1, x2, rfl, k1, k2, k3, k4, k5, k6, k8, k9⟩ hi
    rcases (sig_ready hr c1 c2 n1 n2 t1 t2).1 i hi with ⟨rfl, e⟩ | ⟨rfl, e⟩ | ⟨rfl, e⟩ | ⟨rfl, e⟩ | ⟨rfl, e, e1, e2⟩ | ⟨rfl, e, e1, e2⟩
    · refine wpOp_call i2 gd2 f args1 (r2 _ _ _ _ _) (fun v w' => SigV F1 v w' ∧ Below w1.heap.size w1 w') (hc1 w1 k6) ?_
      rintro v w' ⟨hv, hb'⟩
      rw [d2, put4_1 _ _ _ _ _ _ _ _ _ _ h12 h13 h14]
      have ht : t1 = false := by
        cases t1
        · rfl
        · have := (k8 rfl).2; rw [e] at this; cases this
      subst ht
      have hb2 := k6.trans (hb'.mono k6.size)
      refine ⟨hb2, true, c2, n1, n2, false, t2, rfl, v, v2, v3, v4, g1, g2, x1, x2, rfl, fun _ => hv, fun h => (k2 h).below hb', fun h => ?_, fun h => ?_, k5, hb2, fun h => (by cases h), k9⟩
      · exact ⟨(k3 h).1, (k3 h).2.1, (k3 h).2.2.1.below hb' (k3 h).2.2.1.lt, fun h => (by cases h)⟩
      · exact ⟨(k4 h).1, (k4 h).2.1, (k4 h).2.2.1.below hb' (k4 h).2.2.1.lt, (k4 h).2.2.2⟩
    · refine wpOp_call i5 gd5 f args2 (r5 _ _ _ _ _) (fun v w' => SigV F2 v w' ∧ Below w1.heap.size w1 w') (hc2 w1 k6) ?_
      rintro v w' ⟨hv, hb'⟩
      rw [d5, put4_2 _ _ _ _ _ _ _ _ _ _ h23 h24]
      have ht : t2 = false := by
        cases t2
        · rfl
        · have := (k9 rfl).2; rw [e] at this; cases this
      subst ht
      have hb2 := k6.trans (hb'.mono k6.size)
      refine ⟨hb2, c1, true, n1, n2, t1, false, rfl, v1, v, v3, v4, g1, g2, x1, x2, rfl, fun h => (k1 h).below hb', fun _ => hv, fun h => ?_, fun h => ?_, k5, hb2, k8, fun h => (by cases h)⟩
      · exact ⟨(k3 h).1, (k3 h).2.1, (k3 h).2.2.1.below hb' (k3 h).2.2.1.lt, (k3 h).2.2.2⟩
      · exact ⟨(k4 h).1, (k4 h).2.1, (k4 h).2.2.1.below hb' (k4 h).2.2.1.lt, fun h => (by cases h)⟩
    · refine wpOp_wp i6 gd6 (wp_alloc24 op6 ?_)
      rw [d6, put4_3 _ _ _ _ _ _ _ _ _ _ h34]
      have ht : t1 = false := by
        cases t1
        · rfl
        · have := (k8 rfl).1; rw [e] at this; cases this
      subst ht
      have hb2 := k6.alloc k6.size (.cells #[.slice none 0 0] 28)
      refine ⟨hb2, c1, c2, true, n2, false, t2, rfl, v1, v2, _, v4, w1.heap.size, g2, _, x2, rfl, fun h => (k1 h).alloc _, fun h => (k2 h).alloc _, fun _ => ⟨rfl, k6.size, Lies.new w1 _ 28, fun h => (by cases h)⟩, fun h => ?_, fun _ h2 he => ?_, hb2, (fun h => by cases h), k9⟩
      · exact ⟨(k4 h).1, (k4 h).2.1, (k4 h).2.2.1.alloc _, (k4 h).2.2.2⟩
      · have := (k4 h2).2.2.1.lt; omega
    · refine wpOp_wp i7 gd7 (wp_alloc24 op7 ?_)
      rw [d7, put4_4]
      have ht : t2 = false := by
        cases t2
        · rfl
        · have := (k9 rfl).1; rw [e] at this; cases this
      subst ht
      have hb2 := k6.alloc k6.size (.cells #[.slice none 0 0] 28)
      refine ⟨hb2, c1, c2, n1, true, t1, false, rfl, v1, v2, v3, _, g1, w1.heap.size, x1, _, rfl, fun h => (k1 h).alloc _, fun h => (k2 h).alloc _, fun h => ?_, fun _ => ⟨rfl, k6.size, Lies.new w1 _ 28, fun h => (by cases h)⟩, fun h1 _ he => ?_, hb2, k8, (fun h => by cases h)⟩
      · exact ⟨(k3 h).1, (k3 h).2.1, (k3 h).2.2.1.alloc _, (k3 h).2.2.2⟩
      · have := (k3 h1).2.2.1.lt; omega
    · obtain ⟨rfl, b1, y1, _⟩ := k3 e2
      subst e e1 e2
      obtain ⟨g, c, cs, rfl, hcs, hF⟩ := k1 rfl
      refine wpOp_wp i8 gd8 (wp_store_row 28 (.tmp p1) (.tmp s1) op8 g1 #[.slice (some ⟨g, 0, none⟩) 35 c] (eval4_3 _ _ _ _ _ _ _ _ _ (Ne.symm h34) z3) (eval4_1 _ _ _ _ _ _ _ _ _ (Ne.symm h12) (Ne.symm h13) (Ne.symm h14) z1) 28 _ y1 info24 rfl (by simp [Value.oneCell']) ?_)
      rw [d8]
      have hb2 := below_setRow k6 g1 #[.slice (some ⟨g, 0, none⟩) 35 c] b1
      refine ⟨hb2, true, c2, true, n2, true, t2, rfl, _, v2, _, v4, g1, g2, .slice (some ⟨g, 0, none⟩) 35 c, x2, rfl, fun _ => SigV.setRow ⟨g, c, cs, rfl, hcs, hF⟩ y1 _, fun h => (k2 h).setRow y1 _, fun _ => ⟨rfl, b1, y1.setRow _, fun _ => rfl⟩, fun h => ?_, k5, hb2, fun _ => ⟨rfl, rfl⟩, k9⟩
      exact ⟨(k4 h).1, (k4 h).2.1, (k4 h).2.2.1.setRowOther _ _ (Ne.symm (k5 rfl h)), (k4 h).2.2.2⟩
    · obtain ⟨rfl, b2, y2, _⟩ := k4 e2
      subst e e1 e2
      obtain ⟨g, c, cs, rfl, hcs, hF⟩ := k2 rfl
      refine wpOp_wp i9 gd9 (wp_store_row 28 (.tmp p2) (.tmp s2) op9 g2 #[.slice (some ⟨g, 0, none⟩) 35 c] (eval4_4 _ _ _ _ _ _ _ _ _ z4) (eval4_2 _ _ _ _ _ _ _ _ _ (Ne.symm h23) (Ne.symm h24) z2) 28 _ y2 info24 rfl (by simp [Value.oneCell']) ?_)
      rw [d9]
      have hb2 := below_setRow k6 g2 #[.slice (some ⟨g, 0, none⟩) 35 c] b2
      refine ⟨hb2, c1, true, n1, true, t1, true, rfl, v1, _, v3, _, g1, g2, x1, .slice (some ⟨g, 0, none⟩) 35 c, rfl, fun h => (k1 h).setRow y2 _, fun _ => SigV.setRow ⟨g, c, cs, rfl, hcs, hF⟩ y2 _, fun h => ?_, fun _ => ⟨rfl, b2, y2.setRow _, fun _ => rfl⟩, k5, hb2, k8, fun _ => ⟨rfl, rfl⟩⟩
      exact ⟨(k3 h).1, (k3 h).2.1, (k3 h).2.2.1.setRowOther _ _ (k5 h rfl), (k3 h).2.2.2⟩
  · obtain ⟨v1, v2, v3, v4, e⟩ := put4_self a0 s1 s2 p1 p2 h12 h13 h14 h23 h24 h34
    exact ⟨false, false, false, false, false, false, rfl, v1, v2, v3, v4, 0, 0, undef, undef, e, fun h => (by cases h), fun h => (by cases h), fun h => (by cases h), fun h => (by cases h), fun h => (by cases h), hb, fun h => (by cases h), fun h => (by cases h)⟩
end Go.Proofs.YtgempifedhiknaaGreatDoor
namespace Go.Proofs.YtgempifedhiknaaGreatDoor
set_option maxRecDepth 100000
open Go.RowKit Go.Shelf Sha Go.Sort

/-- A hash in the middle of a block. -/
def HashAt (w : World) (b off : Nat) (l : List UInt8) : Prop := l.length = 32 ∧ w.rangeAt b off (B8 l).toList ∧ b < w.heap.size
theorem HashAt.below {B : Nat} {w w' : World} {b off : Nat} {l : List UInt8} (h : HashAt w b off l) (hb : Below B w w') (hB : b < B) : HashAt w' b off l :=
  ⟨h.1, fun j v hv => (hb.cell (p := ⟨b, off + j, none⟩) hB).trans (h.2.1 j v hv), Nat.lt_of_lt_of_le h.2.2 hb.size⟩
theorem hash_src {w : World} {g off : Nat} {F : List UInt8} (h : Src w g off F) (hg : g < w.heap.size) (i : Nat) (hi : 32 * i + 32 ≤ F.length) : HashAt w g (off + i * 32) ((F.drop (32 * i)).take 32) := by
  have hl : ((F.drop (32 * i)).take 32).length = 32 := by rw [List.length_take, List.length_drop]; omega
  refine ⟨hl, fun j v hv => ?_, hg⟩
  have hj : j < 32 := by
    have := (List.getElem?_eq_some_iff.1 hv).1
    rwa [Array.length_toList, B8_size, hl] at this
  rw [Array.getElem?_toList, B8_get _ j (by omega)] at hv
  rw [← hv]
  have := h (32 * i + j) (by omega)
  rw [show off + i * 32 + j = off + (32 * i + j) by omega, this]
  simp only [List.getD_eq_getElem?_getD]
  rw [List.getElem?_take_of_lt (by omega), List.getElem?_drop]
theorem wpQuiet_load26 {w : World} {ops : Array Oper} {rest : List Oper} {o : Oper} {a : Act} {Q : Act → Prop} (hw : Region.wanted o (yielded ops a.tmps) = true) (x : Operand) (ho : o.op = .load 24 x) (b off : Nat) (hx : a.eval x = .pointer (some ⟨b, off, none⟩))
    (l : List UInt8) (hl : HashAt w b off l)
    (h : wpQuiet Tryz.prog ops (fun w' => ∃ p : Regrown, w' = grow (redrawn w p.d) p.os) Q rest (a.put o.dst (.agg (B8 l)))) : wpQuiet Tryz.prog ops (fun w' => ∃ p : Regrown, w' = grow (redrawn w p.d) p.os) Q (o :: rest) a := by
  unfold wpQuiet
  rw [if_pos hw]
  refine ⟨.agg (B8 l), fun w' ⟨p, e⟩ => ?_, h⟩
  have hr := (hl.below (below_regrown w p.d p.os) hl.2.2).2.1
  rw [← e] at hr
  unfold Oper.quietAt execOp
  have hrun := run_loadVar_mid (P := Tryz.prog) w' b off 24 (B8 l).toList _ hr Tryz.underlying24 rfl (by rw [Array.length_toList, B8_size, hl.1]; exact info27)
  simp only [ho, hx, Instr.loadAt, Instr.sureAddr, Sem.run_bind, Sem.run_pure, Result.andThen_ok, hrun]
  exact ⟨rfl, by simp⟩
set_option maxRecDepth 100000 in
set_option maxHeartbeats 1000000 in
theorem samehashes_any (F : List UInt8) (m : Nat) (hF : F.length = 32 * m) (hm9 : m ≤ 1000) (v1 v2 : Option Addr) (c1 c2 : Nat) (w : World) (h1 : 0 < m → ∃ g off, v1 = some ⟨g, off, none⟩ ∧ g < w.heap.size ∧ Src w g off F) (h2 : 0 < m → ∃ g off, v2 = some ⟨g, off, none⟩ ∧ g < w.heap.size ∧ Src w g off F) :
    Calls Tryz.prog 18 #[.slice v1 m c1, .slice v2 m c2] w fun e w' => e = .returned (.bool true) ∧ Below w.heap.size w w' := by
  have HS1 := Lib.hid h1
  have HS2 := Lib.hid h2
  have HF := Lib.hid hF
  have m4 : ((m : Int) != (m : Int)) = false := by simp
  clear h1 h2 hF
  go_enter Tryz.func18, Tryz.ntmps18
  go_wp2_with fail
  go_loopw [5] (fun i wr => ∃ k : Nat, k ≤ m ∧ i = .int .i64 k ∧ Below w.heap.size w wr) (fun i _ => m - (intOf i).toNat)
  case atStart => exact ⟨0, by omega, rfl, Below.refl _ _⟩
  case round =>
    obtain ⟨k, hk, rfl, hb⟩ := hrel
    have HB := Lib.hid hb
    clear hb
    by_cases hlt : k < m
    · have i1 : (k : Int) < (m : Int) := by omega
      have f0 : (0 : Int) ≤ (k : Int) := by omega
      obtain ⟨g1, off1, rfl, hg1, hs1⟩ := HS1.out (by omega)
      obtain ⟨g2, off2, rfl, hg2, hs2⟩ := HS2.out (by omega)
      have hx1 := (hash_src hs1 hg1 k (by rw [HF.out]; omega)).below HB.out hg1
      have hx2 := (hash_src hs2 hg2 k (by rw [HF.out]; omega)).below HB.out hg2
      generalize (F.drop (32 * k)).take 32 = X at hx1 hx2
      have heq := equal_same X hx1.1
      have hgu := guard26
      have X1 := Lib.hid hx1
      have X2 := Lib.hid hx2
      clear hs1 hs2 hx1 hx2 hg1 hg2
      go_wp2_with fail
      refine wp_region_quiet_below (by kernel_rfl) (by kernel_rfl) ?_
      iterate 3 (first | go_big_quiet_step (fail) | quiet_step (fail))
      refine wpQuiet_load26 (by rfl) _ rfl g1 (off1 + k * 32) rfl X X1.out ?_
      iterate 3 (first | go_big_quiet_step (fail) | quiet_step (fail))
      refine wpQuiet_load26 (by rfl) _ rfl g2 (off2 + k * 32) rfl X X2.out ?_
      iterate 1 (first | go_big_quiet_step (fail) | quiet_step (fail))
      refine wpQuiet_nil ?_
      rintro w5 ⟨p, hw5⟩
      have HB5 : Hid (Below w.heap.size w w5) := Lib.hid (by rw [hw5]; exact HB.out.trans ((below_regrown wr p.d p.os).mono HB.out.size))
      clear hw5 X1 X2 heq
      go_wp2_with fail
      refine ⟨⟨k + 1, by omega, by go_num, HB5.out⟩, ?_⟩
      simp [intOf]; omega
    · have hd : decide (k < m) = false := by simp; omega
      have i1 : ¬ (k : Int) < (m : Int) := by omega
      go_wp2_with fail
      go_ret
      exact ⟨rfl, HB.out⟩
end Go.Proofs.YtgempifedhiknaaGreatDoor
