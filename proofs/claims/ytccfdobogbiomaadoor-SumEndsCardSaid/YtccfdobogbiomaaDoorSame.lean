/-
  Two hashes that are alike are told to be alike; a row of slices that grows. No condition.
-/
import Derived.Test.YtccfdobogbiomaaDoorHex
import Derived.ChangeKeysEq
namespace Go.Proofs.YtccfdobogbiomaaDoor
open Go.RowKit Sha

theorem plain5 : Tryd.prog.plainKey 5 = true := by kernel_rfl
theorem cells5 : Tryd.prog.cellsOf 5 = 1 := by kernel_rfl
theorem eqItems_same (l : List UInt8) (d : Nat) (w : World) : ∀ is : List Nat, (∀ j, j ∈ is → j < l.length) → (Op.eqItems (d + 1) 5 1 (B8 l) (B8 l) is).run Tryd.prog w = .ok true w
  | [], _ => by simp [Op.eqItems]
  | j :: is, h => by
    have hp := run_part_plain (P := Tryd.prog) w plain5 (B8_get l j (h j (by simp)))
    have ih := eqItems_same l d w is (fun i hi => h i (by simp [hi]))
    simp only [Op.eqItems, Sem.run_bind, Nat.mul_one, hp, Result.andThen_ok, run_equalIn_int w d 5 .u8 .u8 _ _ Tryd.underlying5, beq_self_eq_true, Bool.not_true, Bool.false_eq_true, if_false, ih]
theorem equal_same (l : List UInt8) (hl : l.length = 32) (w : World) : (Op.equalIn 10000 27 (.agg (B8 l)) (.agg (B8 l))).run Tryd.prog w = .ok true w := by
  obtain ⟨i0, hi0, _⟩ := info_parts info5
  have := run_equalIn_array (P := Tryd.prog) w 9999 (B8 l) (B8 l) Tryd.underlying27 hi0
  rw [cells5, eqItems_same l 9998 w _ (fun j hj => by rw [hl]; simpa using hj)] at this
  exact this

theorem info38 : (Tryd.prog.info? 38).map (fun i => (i.zero, i.size, i.bytes)) = some (some (.slice none 0 0), 1, 24) := by kernel_rfl
/-- Slices of bytes in a row of the call's own. -/
def RowP (w0 : World) (ps : List Part) (v : Value) (w : World) : Prop := w.ownsRow w0.heap.size 38 1 v ps.length (ps.map Part.val) ∧ Below w0.heap.size w0 w
theorem RowP.alloc {w0 : World} {ps : List Part} {v : Value} {w : World} (h : RowP w0 ps v w) (o : Obj) : RowP w0 ps v (w.alloc o) := ⟨h.1.alloc o, h.2.alloc h.2.size o⟩
theorem wpList_pushP {w0 w : World} {ops : Array Oper} {rest : List Oper} {o : Oper} {a : Act} {Q : Exit → Act → World → Prop} (hgd : o.guard = none) (sx x : Operand)
    (ho : o.op = .call { callee := .builtin .append, args := #[sx, x], argTypes := #[22, 22] }) (ps qs : List Part) (v : Value) (cells : Array Value) (hcells : cells = (qs.map Part.val).toArray)
    (hs : a.eval sx = v) (hx : a.eval x = .slice (some ⟨w.heap.size, 0, none⟩) qs.length qs.length) (hl : ps.length + qs.length ≤ 5000) (h : RowP w0 ps v w)
    (k : ∀ v' w', Hid (RowP w0 (ps ++ qs) v' w') → wpList Tryd.prog ops Q rest (a.put o.dst v') w') : wpList Tryd.prog ops Q (o :: rest) a (w.alloc (.cells cells 38)) := by
  subst hcells
  obtain ⟨i0, hi0, hz0, hz1, hz2⟩ := info_parts info38
  refine wpList_append_own _ hgd sx x 22 ho w0.heap.size 38 i0 (.slice none 0 0) 1 24 Tryd.underlying22 hi0 hz0 hz1 hz2 rfl (by decide) v ps.length (ps.map Part.val) hs (h.alloc _).1 ⟨w.heap.size, 0, none⟩ qs.length qs.length (qs.map Part.val) hx (by simp) ?_ ?_ (by unfold maxLen; omega) (by omega) (by have := h.2.size; simp; omega) ?_
  · have := World.news_of_block (cs := (qs.map Part.val).toArray) (t := 38) (fr := (0, 0)) (heap_alloc_new w (.cells (qs.map Part.val).toArray 38))
    simpa using this
  · intro u hu
    obtain ⟨p, _, rfl⟩ := List.mem_map.1 hu
    rfl
  · intro v' w' hown hgrow _
    refine k v' w' ⟨?_, ?_⟩
    · rw [List.map_append, List.length_append]; exact hown
    · exact (h.alloc _).2.grown hgrow (by have := h.2.size; simp; omega) (fun j e => (h.1.lt j e).1)
theorem RowP.shape {w0 : World} {ps : List Part} {v : Value} {w : World} (h : RowP w0 ps v w) (hl : 0 < ps.length) : ∃ g c, v = .slice (some ⟨g, 0, none⟩) ps.length c := by
  rcases h.1.2 with ⟨_, h0⟩ | ⟨g, cap, cur, rfl, _⟩
  · omega
  · exact ⟨g, cap, rfl⟩
theorem RowP.psrc {w0 : World} {ps : List Part} {g n c : Nat} {w : World} (h : RowP w0 ps (.slice (some ⟨g, 0, none⟩) n c) w) : PSrc w g 0 ps := fun j hj => by
  have := h.1.cells (g := g) rfl j ((ps.getD j ⟨none, [], 0⟩).val) (by simp [hj])
  rwa [Addr.add_mid] at this
theorem RowP.nil (w : World) : RowP w [] (.slice none 0 0) w := ⟨World.ownsRow_nil _ _ _ _, Below.refl _ _⟩
theorem good_none (w : World) (z : Option Addr) (c : Nat) (h : c ≤ maxLen) : Good w ⟨z, [], c⟩ := ⟨Nat.zero_le _, h, fun h => absurd h (by simp)⟩
end Go.Proofs.YtccfdobogbiomaaDoor
