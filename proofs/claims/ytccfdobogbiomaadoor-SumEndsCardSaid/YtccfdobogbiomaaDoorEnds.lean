/-
  SumEnds' bytes and hashes as they grow; two hashes are told to be alike if they are.
-/
import Derived.Test.YtccfdobogbiomaaDoorLentH
import Derived.Test.YtccfdobogbiomaaDoorSame
import Derived.Test.YtccfdobogbiomaaDoorRowV
import Derived.Test.YtccfdobogbiomaaDoorFlip
namespace Go.Proofs.YtccfdobogbiomaaDoor
open Go.RowKit Sha

theorem eqItems_diff (l m : List UInt8) (d : Nat) (w : World) : ∀ is : List Nat, (∀ j, j ∈ is → j < l.length ∧ j < m.length) → (∃ j, j ∈ is ∧ l.getD j 0 ≠ m.getD j 0) → (Op.eqItems (d + 1) 5 1 (B8 l) (B8 m) is).run Tryd.prog w = .ok false w
  | [], _, hx => by obtain ⟨j, hj, _⟩ := hx; cases hj
  | j :: is, h, hx => by
    have hp := run_part_plain (P := Tryd.prog) w plain5 (B8_get l j (h j (by simp)).1)
    have hq := run_part_plain (P := Tryd.prog) w plain5 (B8_get m j (h j (by simp)).2)
    by_cases he : l.getD j 0 = m.getD j 0
    · have ih := eqItems_diff l m d w is (fun i hi => h i (by simp [hi])) (by
        obtain ⟨i, hi, hne⟩ := hx
        rcases List.mem_cons.1 hi with rfl | hi
        · exact absurd he hne
        · exact ⟨i, hi, hne⟩)
      rw [he] at hp
      simp only [Op.eqItems, Sem.run_bind, Nat.mul_one, hp, hq, Result.andThen_ok, run_equalIn_int w d 5 .u8 .u8 _ _ Tryd.underlying5, beq_self_eq_true, Bool.not_true, Bool.false_eq_true, if_false, ih]
    · have hb : (((l.getD j 0).toNat : Int) == ((m.getD j 0).toNat : Int)) = false := by
        rw [beq_eq_false_iff_ne]
        intro e
        exact he (UInt8.toNat_inj.1 (by omega))
      simp only [Op.eqItems, Sem.run_bind, Nat.mul_one, hp, hq, Result.andThen_ok, run_equalIn_int w d 5 .u8 .u8 _ _ Tryd.underlying5, hb, Bool.not_false, if_true, Sem.run_pure]
theorem equal_other (l m : List UInt8) (hl : l.length = 32) (hm : m.length = 32) (hne : l ≠ m) (w : World) : (Op.equalIn 10000 27 (.agg (B8 l)) (.agg (B8 m))).run Tryd.prog w = .ok false w := by
  obtain ⟨i0, hi0, _⟩ := info_parts info5
  have := run_equalIn_array (P := Tryd.prog) w 9999 (B8 l) (B8 m) Tryd.underlying27 hi0
  rw [cells5, eqItems_diff l m 9998 w _ (fun j hj => by rw [hl, hm]; simpa using hj) ?_] at this
  · exact this
  · refine Classical.byContradiction fun hno => hne (List.ext_getElem (by rw [hl, hm]) fun j h1 h2 => ?_)
    refine Classical.byContradiction fun hj => hno ⟨j, by simp; omega, ?_⟩
    simpa [List.getD_eq_getElem?_getD, h1, h2] using hj

theorem seqB_length (n : Nat) : (seqB n).length = n := by simp [seqB]
theorem seqB_succ (n : Nat) : seqB (n + 1) = seqB n ++ [byteAt n] := by simp [seqB, List.range_succ]
theorem seqB_take (n k : Nat) (h : k ≤ n) : (seqB n).take k = seqB k := by
  unfold seqB; rw [← List.map_take, List.take_range]; congr 2; omega
def hashB (b c : UInt8) : List UInt8 := b :: c :: List.replicate 30 0
def hashN (n : Nat) : List UInt8 := hashB (UInt8.ofNat n) (UInt8.ofNat (n * n))
def seqH (n : Nat) : List UInt8 := (List.range n).flatMap hashN
theorem seqH_succ (n : Nat) : seqH (n + 1) = seqH n ++ hashN n := by simp [seqH, List.range_succ]
theorem seqH_length (n : Nat) : (seqH n).length = 32 * n := by
  induction n with
  | zero => rfl
  | succ n ih => rw [seqH_succ, List.length_append, ih]; show 32 * n + 32 = _; omega
theorem built27h (b c : UInt8) : Tryd.prog.built 27 [(0, .int .u8 b.toNat), (1, .int .u8 c.toNat)] = some (B8 (hashB b c)) := by kernel_rfl
theorem wpList_build_H2 {w : World} {ops : Array Oper} {rest : List Oper} {o : Oper} {a : Act} {Q : Exit → Act → World → Prop} (hg : o.guard = none) (parts : Array (Nat × Operand)) (ho : o.op = .build 27 parts) (b c : UInt8)
    (hp : (parts.map fun (i, x) => (i, a.eval x)).toList = [(0, .int .u8 b.toNat), (1, .int .u8 c.toNat)])
    (h : wpList Tryd.prog ops Q rest (a.put o.dst (.agg (B8 (hashB b c)))) w) : wpList Tryd.prog ops Q (o :: rest) a w := by
  refine wpList_build hg 27 parts ho (by rw [hp, built27h]; rfl) ?_
  rw [hp, built27h]
  exact h
theorem run_slotH (b c : UInt8) (w : World) : (Instr.buildSlice 32 1 #[(0, .agg (B8 (hashB b c)))]).run Tryd.prog w = .ok (.slice (some ⟨w.heap.size, 0, none⟩) 1 1) (w.alloc (.cells (B8 (hashB b c)) 27)) := by kernel_rfl
theorem wpList_slotH {w : World} {ops : Array Oper} {rest : List Oper} {o : Oper} {a : Act} {Q : Exit → Act → World → Prop} (hg : o.guard = none) (x : Operand) (ho : o.op = .buildSlice 32 1 #[(0, x)]) (b c : UInt8) (hx : a.eval x = .agg (B8 (hashB b c)))
    (h : wpList Tryd.prog ops Q rest (a.put o.dst (.slice (some ⟨w.heap.size, 0, none⟩) 1 1)) (w.alloc (.cells (B8 (hashB b c)) 27))) : wpList Tryd.prog ops Q (o :: rest) a w := by
  refine wpList_plain hg fun K hK => ?_
  unfold Oper.wp execOp
  have e : (#[(0, x)].map fun (i, y) => (i, a.eval y)) = #[(0, Value.agg (B8 (hashB b c)))] := by simp [hx]
  simp only [ho, e, Sem.run_bind, run_slotH, Result.andThen_ok]
  exact hK _ _ h

/-- The bytes and the hashes so far, apart. -/
def BL (w0 : World) (nb nl : Nat) (vb vl : Value) (w : World) : Prop := AtQ w0 (seqB nb) vb w ∧ AtHs w0 nl (seqH nl) vl w ∧ Apart vb vl
theorem BL.none_ (w : World) : BL w 0 0 (.slice none 0 0) (.slice none 0 0) w :=
  ⟨⟨World.ownsRow_nil _ _ _ _, Below.refl _ _⟩, ⟨World.ownsRow_nil _ _ _ _, Below.refl _ _⟩, fun g h => by simp [Value.ownBlock] at h⟩
theorem BL.alloc {w0 w : World} {nb nl : Nat} {vb vl : Value} (h : BL w0 nb nl vb vl w) (o : Obj) : BL w0 nb nl vb vl (w.alloc o) := ⟨h.1.alloc o, h.2.1.alloc o, h.2.2⟩
theorem own_below {w w' : World} {base : Nat} {e : TypeId} {size n : Nat} {u : Value} {xs : List Value} {B : Nat} (h : w.ownsRow base e size u n xs) (hb : Below B w w') (hB : w.heap.size ≤ B) : w'.ownsRow base e size u n xs := by
  refine ⟨h.1, ?_⟩
  rcases h.2 with hn | ⟨g, cap, cur, h1, h2, h3, h4⟩
  · exact .inl hn
  · exact .inr ⟨g, cap, cur, h1, h2, (hb.block g (Nat.lt_of_lt_of_le (Array.getElem?_eq_some_iff.1 h3).1 hB)).trans h3, h4⟩
theorem BL.below {w0 w w' : World} {nb nl : Nat} {vb vl : Value} (h : BL w0 nb nl vb vl w) (hb : Below w.heap.size w w') : BL w0 nb nl vb vl w' :=
  ⟨⟨own_below h.1.1 hb (Nat.le_refl _), h.1.2.trans (hb.mono h.1.2.size)⟩, ⟨own_below h.2.1.1 hb (Nat.le_refl _), h.1.2.trans (hb.mono h.1.2.size)⟩, h.2.2⟩
theorem wpList_pushB {w0 w : World} {ops : Array Oper} {rest : List Oper} {o : Oper} {a : Act} {Q : Exit → Act → World → Prop} (hgd : o.guard = none) (sx x : Operand)
    (ho : o.op = .call { callee := .builtin .append, args := #[sx, x], argTypes := #[38, 38] }) (nb nl : Nat) (vb vl : Value)
    (hs : a.eval sx = vb) (hx : a.eval x = .slice (some ⟨w.heap.size, 0, none⟩) 1 1) (hl : nb ≤ 2000000) (h : BL w0 nb nl vb vl w) (u : Value) (hu : u = .int .u8 (byteAt nb).toNat)
    (k : ∀ v' w', Hid (BL w0 (nb + 1) nl v' vl w') → wpList Tryd.prog ops Q rest (a.put o.dst v') w') : wpList Tryd.prog ops Q (o :: rest) a (w.alloc (.cells #[u] 5)) := by
  subst hu
  obtain ⟨i0, hi0, hz0, hz1, hz2⟩ := info_parts info5
  have ha := h.alloc (.cells #[.int .u8 (byteAt nb).toNat] 5)
  refine wpList_append_own_at _ hgd sx x 38 ho w0.heap.size 5 i0 (.int .u8 0) 1 1 Tryd.underlying38 hi0 hz0 hz1 hz2 rfl (by decide) vb (seqB nb).length (B8 (seqB nb)).toList hs ha.1.1 ⟨w.heap.size, 0, none⟩ 1 1 [.int .u8 (byteAt nb).toNat] hx rfl ?_ (by simp [Value.oneCell']) (by rw [seqB_length]; unfold maxLen; omega) (by rw [seqB_length]; omega) (by have := h.1.2.size; simp; omega) ?_
  · exact World.news_of_block (cs := #[.int .u8 (byteAt nb).toNat]) (t := 5) (fr := (0, 0)) (heap_alloc_new w _)
  · intro v' w' hown hgrow _ hat
    have hbel : Below w0.heap.size w0 w' := ha.1.2.grown hgrow (by have := h.1.2.size; simp; omega) (fun j e => (ha.1.1.lt j e).1)
    refine k v' w' ⟨⟨?_, hbel⟩, ⟨own_kept ha.2.1.1 hgrow (fun g h1 h2 => ha.2.2 g h2 h1), hbel⟩, ha.2.2.grown hat fun g hg => own_lt ha.2.1.1 hg⟩
    have e : (B8 (seqB (nb + 1))).toList = (B8 (seqB nb)).toList ++ [.int .u8 (byteAt nb).toNat] := by simp [B8, seqB_succ]
    rw [e, seqB_length]
    rw [seqB_length] at hown
    exact hown
theorem wpList_pushL {w0 w : World} {ops : Array Oper} {rest : List Oper} {o : Oper} {a : Act} {Q : Exit → Act → World → Prop} (hgd : o.guard = none) (sx x : Operand)
    (ho : o.op = .call { callee := .builtin .append, args := #[sx, x], argTypes := #[32, 32] }) (nb nl : Nat) (vb vl : Value)
    (hs : a.eval sx = vl) (hx : a.eval x = .slice (some ⟨w.heap.size, 0, none⟩) 1 1) (hl : nl ≤ 2000000) (h : BL w0 nb nl vb vl w) (cs : Array Value) (hcs : cs = B8 (hashN nl))
    (k : ∀ v' w', Hid (BL w0 nb (nl + 1) vb v' w') → wpList Tryd.prog ops Q rest (a.put o.dst v') w') : wpList Tryd.prog ops Q (o :: rest) a (w.alloc (.cells cs 27)) := by
  subst hcs
  obtain ⟨i0, hi0, hz0, hz1, hz2⟩ := info_parts info27b
  have ha := h.alloc (.cells (B8 (hashN nl)) 27)
  refine wpList_append_own_at _ hgd sx x 32 ho w0.heap.size 27 i0 (.agg z32) 32 32 Tryd.underlying32 hi0 hz0 hz1 hz2 rfl (by decide) vl nl (B8 (seqH nl)).toList hs ha.2.1.1 ⟨w.heap.size, 0, none⟩ 1 1 (B8 (hashN nl)).toList hx (by rw [Array.length_toList, B8_size]; rfl) (src_news (lies_src (Lies.new w (B8 (hashN nl)) 27))) (byts_one _) (by unfold maxLen; omega) (by omega) (by have := h.1.2.size; simp; omega) ?_
  intro v' w' hown hgrow _ hat
  have hbel : Below w0.heap.size w0 w' := ha.1.2.grown hgrow (by have := h.1.2.size; simp; omega) (fun j e => (ha.2.1.1.lt j e).1)
  refine k v' w' ⟨⟨own_kept ha.1.1 hgrow (fun g h1 h2 => ha.2.2 g h1 h2), hbel⟩, ⟨?_, hbel⟩, (ha.2.2.symm.grown hat fun g hg => own_lt ha.1.1 hg).symm⟩
  have e : (B8 (seqH (nl + 1))).toList = (B8 (seqH nl)).toList ++ (B8 (hashN nl)).toList := by simp [B8, seqH_succ]
  rw [e]
  exact hown
end Go.Proofs.YtccfdobogbiomaaDoor
