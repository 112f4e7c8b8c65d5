/-
  WireNil: its walk, for whatever put.
-/
import Derived.Test.YtjbjagdpemnhiaaGreatTellHash
import Derived.Test.YtjbjagdpemnhiaaGreatPutNil
import Derived.Test.YtjbjagdpemnhiaaGreatAwake
import Derived.Deep.CutRange
namespace Go.Proofs.YtjbjagdpemnhiaaGreat
open Go.RowKit

/-- The world of WireNil. -/
structure NW (w W : World) (cs : Array Value) : Prop where
  box : Lies W w.heap.size cs 28
  ws : Lies W (w.heap.size + 1 + 1) #[.pointer none, .pointer (some ⟨w.heap.size + 1, 0, none⟩)] 34
  rs : Lies W (w.heap.size + 1 + 1 + 1 + 1) #[.pointer none, .pointer (some ⟨w.heap.size + 1 + 1 + 1, 0, none⟩)] 44
  wn : W.cell? ⟨w.heap.size + 1, 0, none⟩ = some (.pointer none)
  rn : W.cell? ⟨w.heap.size + 1 + 1 + 1, 0, none⟩ = some (.pointer none)
  below : Below w.heap.size w W
theorem NW.on {w W W' : World} {cs : Array Value} (h : NW w W cs) (hb : Below W.heap.size W W') : NW w W' cs :=
  ⟨h.box.below hb h.box.lt, h.ws.below hb h.ws.lt, h.rs.below hb h.rs.lt, (hb.cell (p := ⟨w.heap.size + 1, 0, none⟩) (by have := h.rs.lt; show w.heap.size + 1 < _; omega)).trans h.wn, (hb.cell (p := ⟨w.heap.size + 1 + 1 + 1, 0, none⟩) (by have := h.rs.lt; show w.heap.size + 1 + 1 + 1 < _; omega)).trans h.rn, h.below.trans (hb.mono h.below.size)⟩
theorem NW.writer {w W : World} {cs : Array Value} (h : NW w W cs) (k : Nat) (hk : k < 2) : ∃ p, W.cell? ⟨w.heap.size + 1 + 1, k, none⟩ = some (.pointer p) ∧ Nobody W p := by
  match k, hk with
  | 0, _ => exact ⟨_, h.ws.cell 0 rfl, .inl rfl⟩
  | 1, _ => exact ⟨_, h.ws.cell 1 rfl, .inr ⟨_, rfl, by have := h.rs.lt; omega, h.wn⟩⟩
theorem NW.reader {w W : World} {cs : Array Value} (h : NW w W cs) (k : Nat) (hk : k < 2) : ∃ p, W.cell? ⟨w.heap.size + 1 + 1 + 1 + 1, k, none⟩ = some (.pointer p) ∧ Nobody W p := by
  match k, hk with
  | 0, _ => exact ⟨_, h.rs.cell 0 rfl, .inl rfl⟩
  | 1, _ => exact ⟨_, h.rs.cell 1 rfl, .inr ⟨_, rfl, by have := h.rs.lt; omega, h.rn⟩⟩
theorem NW.start (w : World) (cs : Array Value) : NW w (((((w.alloc (.cells cs 28)).alloc (.cells #[.pointer none, .bool false, .slice none 0 0] 62)).alloc (.cells #[.pointer none, .pointer (some ⟨w.heap.size + 1, 0, none⟩)] 34)).alloc (.cells #[.pointer none, .bool false, .slice none 0 0, .int .i64 0] 71)).alloc (.cells #[.pointer none, .pointer (some ⟨w.heap.size + 1 + 1 + 1, 0, none⟩)] 44)) cs := by
  refine ⟨((((Lies.new w cs 28).alloc _).alloc _).alloc _).alloc _, ?_, ?_, ?_, ?_, (((((Below.refl _ _).alloc (Nat.le_refl _) _).alloc (by simp) _).alloc (by simp; omega) _).alloc (by simp; omega) _).alloc (by simp; omega) _⟩
  · have := Lies.new ((w.alloc (.cells cs 28)).alloc (.cells #[.pointer none, .bool false, .slice none 0 0] 62)) #[.pointer none, .pointer (some ⟨w.heap.size + 1, 0, none⟩)] 34
    have := (this.alloc (.cells #[.pointer none, .bool false, .slice none 0 0, .int .i64 0] 71)).alloc (.cells #[.pointer none, .pointer (some ⟨w.heap.size + 1 + 1 + 1, 0, none⟩)] 44)
    simpa using this
  · have := Lies.new ((((w.alloc (.cells cs 28)).alloc (.cells #[.pointer none, .bool false, .slice none 0 0] 62)).alloc (.cells #[.pointer none, .pointer (some ⟨w.heap.size + 1, 0, none⟩)] 34)).alloc (.cells #[.pointer none, .bool false, .slice none 0 0, .int .i64 0] 71)) #[.pointer none, .pointer (some ⟨w.heap.size + 1 + 1 + 1, 0, none⟩)] 44
    simpa using this
  · have := Lies.new (w.alloc (.cells cs 28)) #[.pointer none, .bool false, .slice none 0 0] 62
    have := ((this.alloc (.cells #[.pointer none, .pointer (some ⟨w.heap.size + 1, 0, none⟩)] 34)).alloc (.cells #[.pointer none, .bool false, .slice none 0 0, .int .i64 0] 71)).alloc (.cells #[.pointer none, .pointer (some ⟨w.heap.size + 1 + 1 + 1, 0, none⟩)] 44)
    have := this.cell 0 (v := .pointer none) rfl
    simpa using this
  · have := Lies.new (((w.alloc (.cells cs 28)).alloc (.cells #[.pointer none, .bool false, .slice none 0 0] 62)).alloc (.cells #[.pointer none, .pointer (some ⟨w.heap.size + 1, 0, none⟩)] 34)) #[.pointer none, .bool false, .slice none 0 0, .int .i64 0] 71
    have := this.alloc (.cells #[.pointer none, .pointer (some ⟨w.heap.size + 1 + 1 + 1, 0, none⟩)] 44)
    have := this.cell 0 (v := .pointer none) rfl
    simpa using this
theorem NW.wr (w : World) (k : Nat) (hk : k < 2) : ∃ p, #[Value.pointer none, .pointer (some ⟨w.heap.size + 1, 0, none⟩)][k]? = some (.pointer p) ∧ ∀ V cs, NW w V cs → Nobody V p := by
  match k, hk with
  | 0, _ => exact ⟨_, rfl, fun _ _ _ => .inl rfl⟩
  | 1, _ => exact ⟨_, rfl, fun _ _ h => .inr ⟨_, rfl, by have := h.rs.lt; omega, h.wn⟩⟩
theorem NW.rd (w : World) (k : Nat) (hk : k < 2) : ∃ p, #[Value.pointer none, .pointer (some ⟨w.heap.size + 1 + 1 + 1, 0, none⟩)][k]? = some (.pointer p) ∧ ∀ V cs, NW w V cs → Nobody V p := by
  match k, hk with
  | 0, _ => exact ⟨_, rfl, fun _ _ _ => .inl rfl⟩
  | 1, _ => exact ⟨_, rfl, fun _ _ h => .inr ⟨_, rfl, by have := h.rs.lt; omega, h.rn⟩⟩
theorem told_new (W : World) : (storeCells ⟨W.heap.size, 0, none⟩ (toldE 1).toList 0).run Tryz.prog (W.alloc (.cells #[.int .i64 0, .int .u64 0, .int .u8 0, .int .u8 0, .int .u8 0, .int .u8 0, .int .u8 0, .int .u8 0, .int .u8 0, .int .u8 0, .int .u8 0, .int .u8 0, .int .u8 0, .int .u8 0, .int .u8 0, .int .u8 0, .int .u8 0, .int .u8 0, .int .u8 0, .int .u8 0, .int .u8 0, .int .u8 0, .int .u8 0, .int .u8 0, .int .u8 0, .int .u8 0, .int .u8 0, .int .u8 0, .int .u8 0, .int .u8 0, .int .u8 0, .int .u8 0, .int .u8 0, .int .u8 0, .string ⟨#[]⟩, .bool false, .int .i64 0, .int .i64 0, .bool false] 49)) = .ok () (W.alloc (.cells (toldE 1) 49)) :=
  run_storeCells_new W 49 (toldE 0) (toldE 1) (info47 1) rfl (told_one 1)
theorem told_back {W : World} {g : Nat} (h : Lies W g (toldE 1) 49) : (loadCellsFrom ⟨g, 0, none⟩ 0 39 #[]).run Tryz.prog W = .ok #[.int .i64 0, .int .u64 0, .int .u8 0, .int .u8 0, .int .u8 0, .int .u8 0, .int .u8 0, .int .u8 0, .int .u8 0, .int .u8 0, .int .u8 0, .int .u8 0, .int .u8 0, .int .u8 0, .int .u8 0, .int .u8 0, .int .u8 0, .int .u8 0, .int .u8 0, .int .u8 0, .int .u8 0, .int .u8 0, .int .u8 0, .int .u8 0, .int .u8 0, .int .u8 0, .int .u8 0, .int .u8 0, .int .u8 0, .int .u8 0, .int .u8 0, .int .u8 0, .int .u8 0, .int .u8 0, .string ⟨#[]⟩, .bool false, .int .i64 0, .int .i64 1, .bool false] W := by
  have := run_loadCells_list (P := Tryz.prog) W ⟨g, 0, none⟩ (toldE 1).toList (fun j v hv => by
    have hadd : (⟨g, 0, none⟩ : Addr).add j = ⟨g, j, none⟩ := by unfold Addr.add; split <;> simp_all
    rw [hadd, cell_of_row _ _ j (toldE 1) 49 (0, 0) h]
    simpa using hv)
  exact this
theorem same32 (W : World) : (Op.equalIn 9999 25 (.agg #[.int .u8 0, .int .u8 0, .int .u8 0, .int .u8 0, .int .u8 0, .int .u8 0, .int .u8 0, .int .u8 0, .int .u8 0, .int .u8 0, .int .u8 0, .int .u8 0, .int .u8 0, .int .u8 0, .int .u8 0, .int .u8 0, .int .u8 0, .int .u8 0, .int .u8 0, .int .u8 0, .int .u8 0, .int .u8 0, .int .u8 0, .int .u8 0, .int .u8 0, .int .u8 0, .int .u8 0, .int .u8 0, .int .u8 0, .int .u8 0, .int .u8 0, .int .u8 0]) (.agg #[.int .u8 0, .int .u8 0, .int .u8 0, .int .u8 0, .int .u8 0, .int .u8 0, .int .u8 0, .int .u8 0, .int .u8 0, .int .u8 0, .int .u8 0, .int .u8 0, .int .u8 0, .int .u8 0, .int .u8 0, .int .u8 0, .int .u8 0, .int .u8 0, .int .u8 0, .int .u8 0, .int .u8 0, .int .u8 0, .int .u8 0, .int .u8 0, .int .u8 0, .int .u8 0, .int .u8 0, .int .u8 0, .int .u8 0, .int .u8 0, .int .u8 0, .int .u8 0])).run Tryz.prog W = .ok true W := by kernel_rfl
theorem told_old (W : World) (g : Nat) (h : Lies W g (toldE 0) 49) : (storeCells ⟨g, 0, none⟩ (toldE 1).toList 0).run Tryz.prog W = .ok () (W.setRow g (toldE 1)) :=
  run_storeCells_from (P := Tryz.prog) g 49 (toldE 1).toList 0 (toldE 0) W h (by simp [toldE]) (fun v hv => (Array.all_eq_true_iff_forall_mem.1 (told_one 1)) v (by simpa using hv))
theorem setRow_cell (V : World) (g : Nat) (cs' : Array Value) (a : Addr) (h : a.block ≠ g) : (V.setRow g cs').cell? a = V.cell? a := by
  unfold World.cell?
  rw [setRow_other V g a.block cs' h]
theorem NW.setRow {w V : World} {cs : Array Value} (h : NW w V cs) (g : Nat) (hg : w.heap.size + 5 ≤ g) (cs' : Array Value) : NW w (V.setRow g cs') cs :=
  ⟨h.box.setRowOther g cs' (by omega), h.ws.setRowOther g cs' (by omega), h.rs.setRowOther g cs' (by omega), ((setRow_cell V g cs' _ (by show w.heap.size + 1 ≠ g; omega)).trans h.wn), (setRow_cell V g cs' _ (by show w.heap.size + 1 + 1 + 1 ≠ g; omega)).trans h.rn, below_setRow h.below g cs' (by omega)⟩
theorem info35 {cs : Array Value} (h : cs.size = 37) : (Tryz.prog.info? 28).map (·.size) = some cs.size := by
  rw [h]; kernel_rfl
theorem cells_of {w W : World} {cs : Array Value} (hsz : cs.size = 37) (h : Lies W w.heap.size cs 28) : (loadCellsFrom ⟨w.heap.size, 0, none⟩ 0 37 #[]).run Tryz.prog W = .ok cs W := by
  have := run_loadCells_list (P := Tryz.prog) W ⟨w.heap.size, 0, none⟩ cs.toList (fun j v hv => by
    have hadd : (⟨w.heap.size, 0, none⟩ : Addr).add j = ⟨w.heap.size, j, none⟩ := by unfold Addr.add; split <;> simp_all
    rw [hadd, cell_of_row _ _ j cs 28 (0, 0) h]
    simpa using hv)
  rw [← hsz]
  simpa [loadCells] using this
attribute [-go_sem] loadCellsFrom storeCells
end Go.Proofs.YtjbjagdpemnhiaaGreat
