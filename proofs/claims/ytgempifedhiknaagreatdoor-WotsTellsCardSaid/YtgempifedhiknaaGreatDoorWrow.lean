/-
  A row of hashes that grows, in steps that any walk may take.
-/
import Derived.Test.YtgempifedhiknaaGreatDoorWseed
import Derived.Test.YtgempifedhiknaaGreatDoorRefOf
import Derived.Maps.AppendAt
namespace Go.Proofs.YtgempifedhiknaaGreatDoor
set_option maxRecDepth 100000
open Go.RowKit Sha

theorem info26c : (Tryz.prog.info? 24).map (fun i => (i.zero, i.size, i.bytes)) = some (some (.agg z32), 32, 32) := by kernel_rfl
/-- Hashes, k of them, in a row of the call's own: in a block from B on. -/
def RowH (B k : Nat) (l : List UInt8) (v : Value) (w : World) : Prop := w.ownsRow B 24 32 v k (B8 l).toList
theorem RowH.nil (B : Nat) (w : World) : RowH B 0 [] (.slice none 0 0) w := World.ownsRow_nil _ _ _ _
theorem RowH.block {B k : Nat} {l : List UInt8} {v : Value} {w : World} (h : RowH B k l v w) : ∀ x, v.ownBlock = some x → B ≤ x ∧ x < w.heap.size ∧ ∃ cs, w.heap[x]? = some (.cells cs 24 (0, 0)) := by
  intro x hx
  rcases h.2 with ⟨rfl, _⟩ | ⟨g, cap, cur, rfl, hb, hg, _⟩
  · cases hx
  · obtain rfl : g = x := by simpa [Value.ownBlock] using hx
    exact ⟨hb, (Array.getElem?_eq_some_iff.1 hg).1, cur, hg⟩
theorem RowH.kept {B k : Nat} {l : List UInt8} {v : Value} {w w' : World} {o : Option Nat} (h : RowH B k l v w) (hg : w.grownBy w' o) (hne : ∀ x, v.ownBlock = some x → o ≠ some x) : RowH B k l v w' := by
  refine ⟨h.1, ?_⟩
  rcases h.2 with hn | ⟨g, cap, cur, h1, h2, h3, h4⟩
  · exact .inl hn
  · exact .inr ⟨g, cap, cur, h1, h2, (hg.block g (Array.getElem?_eq_some_iff.1 h3).1 (fun e => hne g (by rw [h1]; rfl) e.symm)).trans h3, h4⟩
theorem RowH.shape {B k : Nat} {l : List UInt8} {v : Value} {w : World} (h : RowH B k l v w) (hk : 0 < k) : ∃ g c, v = .slice (some ⟨g, 0, none⟩) k c ∧ k ≤ c ∧ c ≤ maxLen := by
  rcases h.2 with ⟨_, h0⟩ | ⟨g, cap, cur, rfl, _, _, h1, h2, _⟩
  · omega
  · exact ⟨g, cap, rfl, h1, h2⟩
theorem RowH.len {B k : Nat} {l : List UInt8} {v : Value} {w : World} (h : RowH B k l v w) : l.length = k * 32 := by
  have := h.1
  rwa [Array.length_toList, B8_size] at this
theorem RowH.src {B k : Nat} {l : List UInt8} {g c n : Nat} {w : World} (h : RowH B k l (.slice (some ⟨g, 0, none⟩) n c) w) : Src w g 0 l := by
  intro j hj
  have := h.cells (g := g) rfl j (.int .u8 (l.getD j 0).toNat) (by rw [Array.getElem?_toList]; exact B8_get l j hj)
  rwa [Addr.add_mid] at this
/-- A hash in a slice of its own. -/
theorem run_oneH (h : List UInt8) (hh : h.length = 32) (w : World) : (Instr.buildSlice 26 1 #[(0, .agg (B8 h))]).run Tryz.prog w = .ok (.slice (some ⟨w.heap.size, 0, none⟩) 1 1) (w.alloc (.cells (B8 h) 24)) := by
  obtain ⟨a0, a1, a2, a3, a4, a5, a6, a7, a8, a9, a10, a11, a12, a13, a14, a15, a16, a17, a18, a19, a20, a21, a22, a23, a24, a25, a26, a27, a28, a29, a30, a31, rfl⟩ := list32 h hh
  kernel_rfl
/-- One hash more. -/
theorem run_moreH {B k : Nat} {l : List UInt8} {v : Value} {w : World} (hr : RowH B k l v w) (hk : k ≤ 1000) (hB : B ≤ w.heap.size) (g : Nat) (h : List UInt8) (hh : h.length = 32) (hl : Lies w g (B8 h) 24) (ty : TypeId) :
    ∃ v' w', (Builtin.append_ #[26, 26] ty #[v, .slice (some ⟨g, 0, none⟩) 1 1]).run Tryz.prog w = .ok v' w' ∧ RowH B (k + 1) (l ++ h) v' w' ∧ w.grownBy w' v.ownBlock ∧ v'.oneCell' = true := by
  obtain ⟨i0, hi0, hz0, hz1, hz2⟩ := info_parts info26c
  have hsrc : Src w g 0 h := fun j hj => by
    rw [Nat.zero_add]
    exact hl.cell j (B8_get h j hj)
  obtain ⟨v', w', h1, h2, h3, _, _⟩ := run_append_own_at (P := Tryz.prog) w B 26 ty 24 i0 (.agg z32) 32 32 Tryz.underlying26 hi0 hz0 hz1 hz2 rfl (by decide) v k (B8 l).toList hr ⟨g, 0, none⟩ 1 1 (B8 h).toList (by rw [Array.length_toList, B8_size, hh]) (src_news hsrc) (byts_one _) (by unfold maxLen; omega) (by omega) hB
  have e : (B8 (l ++ h)).toList = (B8 l).toList ++ (B8 h).toList := by simp [B8]
  have h2' : RowH B (k + 1) (l ++ h) v' w' := by
    unfold RowH
    rw [e]; exact h2
  refine ⟨v', w', h1, h2', h3, ?_⟩
  obtain ⟨g', c', rfl, _⟩ := h2'.shape (by omega)
  rfl
theorem wp_store22 {o : Oper} {a : Act} {w : World} {K : Act → World → Prop} {Q : Exit → Act → World → Prop} (x y : Operand) (ho : o.op = .store 26 x y) (ad : Addr) (hx : a.eval x = .pointer (some ad)) (g : Addr) (n c : Nat) (hy : a.eval y = .slice (some g) n c)
    (old : Value) (c4 : w.cell? ad = some old) (f4 : w.frozen? ad = false) (h : K (a.put o.dst undef) (w.setCell ad (.slice (some g) n c))) : o.wp Tryz.prog a w K Q := by
  have key : (execOp a.eval o).run Tryz.prog w = .ok .skip (w.setCell ad (.slice (some g) n c)) := by
    generalize a.eval = ρ at hx hy ⊢
    unfold execOp
    simp [ho, hx, hy, go_sem, c4, f4]
  unfold Oper.wp
  rw [key]
  exact h
theorem exec_oneH {o : Oper} {a : Act} {w : World} (x : Operand) (ho : o.op = .buildSlice 26 1 #[(0, x)]) (h : List UInt8) (hh : h.length = 32) (hx : a.eval x = .agg (B8 h)) :
    (execOp a.eval o).run Tryz.prog w = .ok (.value (.slice (some ⟨w.heap.size, 0, none⟩) 1 1)) (w.alloc (.cells (B8 h) 24)) := by
  unfold execOp
  have e : (#[(0, x)].map fun (i, y) => (i, a.eval y)) = #[(0, Value.agg (B8 h))] := by simp [hx]
  simp only [ho, e, Sem.run_bind, run_oneH h hh, Result.andThen_ok]
  rfl
theorem exec_moreH {o : Oper} {a : Act} {w w' : World} (s x : Operand) (ho : o.op = .call { callee := .builtin .append, args := #[s, x], argTypes := #[26, 26] }) {v v' : Value} {g : Nat} (hs : a.eval s = v) (hx : a.eval x = .slice (some ⟨g, 0, none⟩) 1 1)
    (hr : (Builtin.append_ #[26, 26] o.type #[v, .slice (some ⟨g, 0, none⟩) 1 1]).run Tryz.prog w = .ok v' w') : (execOp a.eval o).run Tryz.prog w = .ok (.value v') w' := by
  unfold execOp
  simp only [ho, resolve, invoke, builtin, Sem.run_bind, Sem.run_pure, Result.andThen_ok, List.map_toArray, List.map_cons, List.map_nil, hs, hx, hr]
end Go.Proofs.YtgempifedhiknaaGreatDoor
