/-
  Rows of values of one cell each, of the call's own; they grow by one; two of them in turn.
-/
import Derived.Test.YtccfdobogbiomaaDoorHex
import Derived.Maps.AppendAt
namespace Go.Proofs.YtccfdobogbiomaaDoor
open Go.RowKit

/-- Values of one cell each in a slice of the call's own. -/
def RowV (w0 : World) (t : TypeId) (vs : List Value) (v : Value) (w : World) : Prop := w.ownsRow w0.heap.size t 1 v vs.length vs ∧ Below w0.heap.size w0 w
theorem RowV.alloc {w0 : World} {t : TypeId} {vs : List Value} {v : Value} {w : World} (h : RowV w0 t vs v w) (o : Obj) : RowV w0 t vs v (w.alloc o) := ⟨h.1.alloc o, h.2.alloc h.2.size o⟩
theorem RowV.none_ (w : World) (t : TypeId) : RowV w t [] (.slice none 0 0) w := ⟨⟨rfl, .inl ⟨rfl, rfl⟩⟩, Below.refl _ _⟩
/-- One value more. -/
theorem wpList_pushV {w0 w : World} {ops : Array Oper} {rest : List Oper} {o : Oper} {a : Act} {Q : Exit → Act → World → Prop} (hgd : o.guard = none) (sx x : Operand) (s t : TypeId)
    (ho : o.op = .call { callee := .builtin .append, args := #[sx, x], argTypes := #[s, s] }) (hu : Tryd.prog.underlying s = some (.slice t)) {z : Value} {bytes : Nat}
    (hin : (Tryd.prog.info? t).map (fun i => (i.zero, i.size, i.bytes)) = some (some z, 1, bytes)) (hzs : z.cells.size = 1) (hby : bytes ≤ 24) (vs : List Value) (v u : Value) (h1 : u.oneCell' = true)
    (hs : a.eval sx = v) (hx : a.eval x = .slice (some ⟨w.heap.size, 0, none⟩) 1 1) (hl : vs.length ≤ 2000000) (h : RowV w0 t vs v w)
    (k : ∀ v' w', Hid (RowV w0 t (vs ++ [u]) v' w') → wpList Tryd.prog ops Q rest (a.put o.dst v') w') : wpList Tryd.prog ops Q (o :: rest) a (w.alloc (.cells #[u] t)) := by
  obtain ⟨i0, hi0, hz0, hz1, hz2⟩ := info_parts hin
  have hb2 : (vs.length + 1) * bytes ≤ 140737488355328 := Nat.le_trans (Nat.mul_le_mul_left _ hby) (by omega)
  refine wpList_append_own _ hgd sx x s ho w0.heap.size t i0 z 1 bytes hu hi0 hz0 hz1 hz2 hzs (by decide) v vs.length vs hs (h.alloc _).1 ⟨w.heap.size, 0, none⟩ 1 1 [u] hx rfl ?_ (by simpa using h1) (by unfold maxLen; omega) hb2 (by have := h.2.size; simp; omega) ?_
  · exact World.news_of_block (cs := #[u]) (t := t) (fr := (0, 0)) (heap_alloc_new w _)
  · intro v' w' hown hgrow _
    refine k v' w' ⟨?_, ?_⟩
    · rw [List.length_append]; exact hown
    · exact (h.alloc _).2.grown hgrow (by have := h.2.size; simp; omega) (fun j e => (h.1.lt j e).1)
theorem RowV.shape {w0 : World} {t : TypeId} {vs : List Value} {v : Value} {w : World} (h : RowV w0 t vs v w) : ∃ A c, v = .slice A vs.length c ∧ (0 < vs.length → ∃ g, A = some ⟨g, 0, none⟩) := by
  rcases h.1.2 with ⟨hv, h0⟩ | ⟨g, cap, cur, rfl, _⟩
  · exact ⟨none, 0, by rw [hv, h0], fun hh => absurd hh (by omega)⟩
  · exact ⟨_, cap, rfl, fun _ => ⟨g, rfl⟩⟩
theorem RowV.cell {w0 : World} {t : TypeId} {vs : List Value} {g n c : Nat} {w : World} (h : RowV w0 t vs (.slice (some ⟨g, 0, none⟩) n c) w) {j : Nat} {u : Value} (hj : vs[j]? = some u) : w.cell? ⟨g, j, none⟩ = some u := by
  have := h.1.cells (g := g) rfl j u hj
  rwa [Addr.add_mid, Nat.zero_add] at this
theorem RowV.below {w0 : World} {t : TypeId} {vs : List Value} {v : Value} {w w' : World} {B : Nat} (h : RowV w0 t vs v w) (hb : Below B w w') (hB : w.heap.size ≤ B) : RowV w0 t vs v w' := by
  refine ⟨⟨h.1.1, ?_⟩, h.2.trans (hb.mono (Nat.le_trans h.2.size hB))⟩
  rcases h.1.2 with hn | ⟨g, cap, cur, h1, h2, h3, h4⟩
  · exact .inl hn
  · exact .inr ⟨g, cap, cur, h1, h2, (hb.block g (Nat.lt_of_lt_of_le (Array.getElem?_eq_some_iff.1 h3).1 hB)).trans h3, h4⟩

theorem own_kept {w w' : World} {base : Nat} {e : TypeId} {size n : Nat} {u : Value} {xs : List Value} {o : Option Nat} (h : w.ownsRow base e size u n xs) (hg : w.grownBy w' o) (hne : ∀ g, u.ownBlock = some g → o ≠ some g) :
    w'.ownsRow base e size u n xs := by
  refine ⟨h.1, ?_⟩
  rcases h.2 with hn | ⟨g, cap, cur, h1, h2, h3, h4⟩
  · exact .inl hn
  · exact .inr ⟨g, cap, cur, h1, h2, (hg.block g (Array.getElem?_eq_some_iff.1 h3).1 (fun e => hne g (by rw [h1]; rfl) e.symm)).trans h3, h4⟩
theorem own_lt {w : World} {base : Nat} {e : TypeId} {size n : Nat} {u : Value} {xs : List Value} (h : w.ownsRow base e size u n xs) {g : Nat} (hu : u.ownBlock = some g) : g < w.heap.size := by
  rcases h.2 with ⟨rfl, _⟩ | ⟨g2, cap, cur, rfl, h2, h3, h4⟩
  · simp [Value.ownBlock] at hu
  · obtain rfl : g2 = g := by simpa [Value.ownBlock] using hu
    exact (Array.getElem?_eq_some_iff.1 h3).1
/-- The two lie in two blocks, or in none. -/
def Apart (v u : Value) : Prop := ∀ g, v.ownBlock = some g → u.ownBlock ≠ some g
theorem Apart.symm {v u : Value} (h : Apart v u) : Apart u v := fun g h1 h2 => h g h2 h1
theorem Apart.grown {v v' u : Value} {B : Nat} (h : Apart v u) (hat : v'.ownBlock = v.ownBlock ∨ v'.ownBlock = some B) (hlt : ∀ g, u.ownBlock = some g → g < B) : Apart v' u := by
  intro g h1 h2
  rcases hat with e | e
  · exact h g (e ▸ h1) h2
  · have := hlt g h2
    rw [e] at h1
    have := Option.some.inj h1
    omega
def Two (w0 : World) (t1 : TypeId) (vs1 : List Value) (v1 : Value) (t2 : TypeId) (vs2 : List Value) (v2 : Value) (w : World) : Prop := RowV w0 t1 vs1 v1 w ∧ RowV w0 t2 vs2 v2 w ∧ Apart v1 v2
theorem Two.symm {w0 w : World} {t1 t2 : TypeId} {vs1 vs2 : List Value} {v1 v2 : Value} (h : Two w0 t1 vs1 v1 t2 vs2 v2 w) : Two w0 t2 vs2 v2 t1 vs1 v1 w := ⟨h.2.1, h.1, h.2.2.symm⟩
theorem Two.none_ (w : World) (t1 t2 : TypeId) : Two w t1 [] (.slice none 0 0) t2 [] (.slice none 0 0) w := ⟨RowV.none_ w t1, RowV.none_ w t2, fun g h => by simp [Value.ownBlock] at h⟩
theorem Two.alloc {w0 w : World} {t1 t2 : TypeId} {vs1 vs2 : List Value} {v1 v2 : Value} (h : Two w0 t1 vs1 v1 t2 vs2 v2 w) (o : Obj) : Two w0 t1 vs1 v1 t2 vs2 v2 (w.alloc o) := ⟨h.1.alloc o, h.2.1.alloc o, h.2.2⟩
theorem wpList_push2 {w0 w : World} {ops : Array Oper} {rest : List Oper} {o : Oper} {a : Act} {Q : Exit → Act → World → Prop} (hgd : o.guard = none) (sx x : Operand) (s t : TypeId)
    (ho : o.op = .call { callee := .builtin .append, args := #[sx, x], argTypes := #[s, s] }) (hu : Tryd.prog.underlying s = some (.slice t)) {z : Value} {bytes : Nat}
    (hin : (Tryd.prog.info? t).map (fun i => (i.zero, i.size, i.bytes)) = some (some z, 1, bytes)) (hzs : z.cells.size = 1) (hby : bytes ≤ 24) (vs : List Value) (v u : Value) (h1 : u.oneCell' = true)
    (hs : a.eval sx = v) (hx : a.eval x = .slice (some ⟨w.heap.size, 0, none⟩) 1 1) (hl : vs.length ≤ 2000000) (t2 : TypeId) (vs2 : List Value) (v2 : Value) (h : Two w0 t vs v t2 vs2 v2 w)
    (k : ∀ v' w', Hid (Two w0 t (vs ++ [u]) v' t2 vs2 v2 w') → wpList Tryd.prog ops Q rest (a.put o.dst v') w') : wpList Tryd.prog ops Q (o :: rest) a (w.alloc (.cells #[u] t)) := by
  obtain ⟨i0, hi0, hz0, hz1, hz2⟩ := info_parts hin
  have hb2 : (vs.length + 1) * bytes ≤ 140737488355328 := Nat.le_trans (Nat.mul_le_mul_left _ hby) (by omega)
  have ha := h.alloc (.cells #[u] t)
  refine wpList_append_own_at _ hgd sx x s ho w0.heap.size t i0 z 1 bytes hu hi0 hz0 hz1 hz2 hzs (by decide) v vs.length vs hs ha.1.1 ⟨w.heap.size, 0, none⟩ 1 1 [u] hx rfl ?_ (by simpa using h1) (by unfold maxLen; omega) hb2 (by have := h.1.2.size; simp; omega) ?_
  · exact World.news_of_block (cs := #[u]) (t := t) (fr := (0, 0)) (heap_alloc_new w _)
  · intro v' w' hown hgrow _ hat
    have hbel : Below w0.heap.size w0 w' := ha.1.2.grown hgrow (by have := h.1.2.size; simp; omega) (fun j e => (ha.1.1.lt j e).1)
    refine k v' w' ⟨⟨?_, hbel⟩, ⟨own_kept ha.2.1.1 hgrow (fun g h1 h2 => ha.2.2 g h2 h1), hbel⟩, ha.2.2.grown hat fun g hg => own_lt ha.2.1.1 hg⟩
    rw [List.length_append]; exact hown
theorem info45b : (Tryd.prog.info? 45).map (fun i => (i.zero, i.size, i.bytes)) = some (some (.int .u32 0), 1, 4) := by kernel_rfl
end Go.Proofs.YtccfdobogbiomaaDoor
