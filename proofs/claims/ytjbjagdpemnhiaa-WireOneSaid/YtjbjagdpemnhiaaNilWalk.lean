/-
  WireNil: its walk, for whatever put.
-/
import Derived.Test.YtjbjagdpemnhiaaTellHash
import Derived.Test.YtjbjagdpemnhiaaPutNil
import Derived.Test.YtjbjagdpemnhiaaAwake
import Derived.Deep.CutRange
namespace Go.Proofs.Ytjbjagdpemnhiaa
open Go.RowKit

/-- The world of WireNil. -/
structure NW (w W : World) (cs : Array Value) : Prop where
  box : Lies W w.heap.size cs 35
  ws : Lies W (w.heap.size + 1 + 1) #[.pointer none, .pointer (some ⟨w.heap.size + 1, 0, none⟩)] 25
  rs : Lies W (w.heap.size + 1 + 1 + 1 + 1) #[.pointer none, .pointer (some ⟨w.heap.size + 1 + 1 + 1, 0, none⟩)] 42
  wn : W.cell? ⟨w.heap.size + 1, 0, none⟩ = some (.pointer none)
  rn : W.cell? ⟨w.heap.size + 1 + 1 + 1, 0, none⟩ = some (.pointer none)
  below : Below w.heap.size w W
theorem NW.on {w W W' : World} {cs : Array Value} (h : NW w W cs) (hb : Below W.heap.size W W') : NW w W' cs :=
  ⟨h.box.below hb h.box.lt, h.ws.below hb h.ws.lt, h.rs.below hb h.rs.lt, (hb.cell (p := ⟨w.heap.size + 1, 0, none⟩) (by have := h.rs.lt; show w.heap.size + 1 < _; omega)).trans h.wn, (hb.cell (p := ⟨w.heap.size + 1 + 1 + 1, 0, none⟩) (by have := h.rs.lt; show w.heap.size + 1 + 1 + 1 < _; omega)).trans h.rn, h.below.trans (hb.mono h.below.size)⟩
theorem NW.writer {w W : World} {cs : Array Value} (h : NW w W cs) (k : Nat) (hk : k < 2) : ∃ p, W.cell? ⟨w.heap.size + 1 + 1, k, none⟩ = some (.pointer p) ∧ Nobody W p := by
  match k, hk with
  | 0, _ => exact ⟨_, h.ws.cell 0 rfl, .inl rfl⟩
  | 1, _ => exact ⟨_, h.ws.cell 1 rfl, .inr ⟨_, rfl, by have := h.rs.lt; omega, h.wn⟩⟩
theorem NW.reader {w W : World} {cs : Array Value} (h : NW w W cs) (k : Nat) (hk : k < 2) : ∃ p, W.cell? ⟨w.heap.size + 1 + 1 + 1 + 1, k, none⟩ = some (.pointer p) ∧ Nobody W p := by
  match k, hk with
  | 0, _ => exact ⟨_, h.rs.cell 0 rfl, .inl rfl⟩
  | 1, _ => exact ⟨_, h.rs.cell 1 rfl, .inr ⟨_, rfl, by have := h.rs.lt; omega, h.rn⟩⟩
theorem NW.start (w : World) (cs : Array Value) : NW w (((((w.alloc (.cells cs 35)).alloc (.cells #[.pointer none, .bool false, .slice none 0 0] 55)).alloc (.cells #[.pointer none, .pointer (some ⟨w.heap.size + 1, 0, none⟩)] 25)).alloc (.cells #[.pointer none, .bool false, .slice none 0 0, .int .i64 0] 58)).alloc (.cells #[.pointer none, .pointer (some ⟨w.heap.size + 1 + 1 + 1, 0, none⟩)] 42)) cs := by
  refine ⟨((((Lies.new w cs 35).alloc _).alloc _).alloc _).alloc _, ?_, ?_, ?_, ?_, (((((Below.refl _ _).alloc (Nat.le_refl _) _).alloc (by simp) _).alloc (by simp; omega) _).alloc (by simp; omega) _).alloc (by simp; omega) _⟩
  · have := Lies.new ((w.alloc (.cells cs 35)).alloc (.cells #[.pointer none, .bool false, .slice none 0 0] 55)) #[.pointer none, .pointer (some ⟨w.heap.size + 1, 0, none⟩)] 25
    have := (this.alloc (.cells #[.pointer none, .bool false, .slice none 0 0, .int .i64 0] 58)).alloc (.cells #[.pointer none, .pointer (some ⟨w.heap.size + 1 + 1 + 1, 0, none⟩)] 42)
    simpa using this
  · have := Lies.new ((((w.alloc (.cells cs 35)).alloc (.cells #[.pointer none, .bool false, .slice none 0 0] 55)).alloc (.cells #[.pointer none, .pointer (some ⟨w.heap.size + 1, 0, none⟩)] 25)).alloc (.cells #[.pointer none, .bool false, .slice none 0 0, .int .i64 0] 58)) #[.pointer none, .pointer (some ⟨w.heap.size + 1 + 1 + 1, 0, none⟩)] 42
    simpa using this
  · have := Lies.new (w.alloc (.cells cs 35)) #[.pointer none, .bool false, .slice none 0 0] 55
    have := ((this.alloc (.cells #[.pointer none, .pointer (some ⟨w.heap.size + 1, 0, none⟩)] 25)).alloc (.cells #[.pointer none, .bool false, .slice none 0 0, .int .i64 0] 58)).alloc (.cells #[.pointer none, .pointer (some ⟨w.heap.size + 1 + 1 + 1, 0, none⟩)] 42)
    have := this.cell 0 (v := .pointer none) rfl
    simpa using this
  · have := Lies.new (((w.alloc (.cells cs 35)).alloc (.cells #[.pointer none, .bool false, .slice none 0 0] 55)).alloc (.cells #[.pointer none, .pointer (some ⟨w.heap.size + 1, 0, none⟩)] 25)) #[.pointer none, .bool false, .slice none 0 0, .int .i64 0] 58
    have := this.alloc (.cells #[.pointer none, .pointer (some ⟨w.heap.size + 1 + 1 + 1, 0, none⟩)] 42)
    have := this.cell 0 (v := .pointer none) rfl
    simpa using this
theorem NW.wr (w : World) (k : Nat) (hk : k < 2) : ∃ p, #[Value.pointer none, .pointer (some ⟨w.heap.size + 1, 0, none⟩)][k]? = some (.pointer p) ∧ ∀ V cs, NW w V cs → Nobody V p := by
  match k, hk with
  | 0, _ => exact ⟨_, rfl, fun _ _ _ => .inl rfl⟩
  | 1, _ => exact ⟨_, rfl, fun _ _ h => .inr ⟨_, rfl, by have := h.rs.lt; omega, h.wn⟩⟩
theorem NW.rd (w : World) (k : Nat) (hk : k < 2) : ∃ p, #[Value.pointer none, .pointer (some ⟨w.heap.size + 1 + 1 + 1, 0, none⟩)][k]? = some (.pointer p) ∧ ∀ V cs, NW w V cs → Nobody V p := by
  match k, hk with
  | 0, _ => exact ⟨_, rfl, fun _ _ _ => .inl rfl⟩
  | 1, _ => exact ⟨_, rfl, fun _ _ h => .inr ⟨_, rfl, by have := h.rs.lt; omega, h.rn⟩⟩
theorem told_new (W : World) : (storeCells ⟨W.heap.size, 0, none⟩ (toldE 1).toList 0).run Try.prog (W.alloc (.cells #[.int .i64 0, .int .u64 0, .int .u8 0, .int .u8 0, .int .u8 0, .int .u8 0, .int .u8 0, .int .u8 0, .int .u8 0, .int .u8 0, .int .u8 0, .int .u8 0, .int .u8 0, .int .u8 0, .int .u8 0, .int .u8 0, .int .u8 0, .int .u8 0, .int .u8 0, .int .u8 0, .int .u8 0, .int .u8 0, .int .u8 0, .int .u8 0, .int .u8 0, .int .u8 0, .int .u8 0, .int .u8 0, .int .u8 0, .int .u8 0, .int .u8 0, .int .u8 0, .int .u8 0, .int .u8 0, .string ⟨#[]⟩, .bool false, .int .i64 0, .int .i64 0, .bool false] 47)) = .ok () (W.alloc (.cells (toldE 1) 47)) :=
  run_storeCells_new W 47 (toldE 0) (toldE 1) (info47 1) rfl (told_one 1)
theorem told_back {W : World} {g : Nat} (h : Lies W g (toldE 1) 47) : (loadCellsFrom ⟨g, 0, none⟩ 0 39 #[]).run Try.prog W = .ok #[.int .i64 0, .int .u64 0, .int .u8 0, .int .u8 0, .int .u8 0, .int .u8 0, .int .u8 0, .int .u8 0, .int .u8 0, .int .u8 0, .int .u8 0, .int .u8 0, .int .u8 0, .int .u8 0, .int .u8 0, .int .u8 0, .int .u8 0, .int .u8 0, .int .u8 0, .int .u8 0, .int .u8 0, .int .u8 0, .int .u8 0, .int .u8 0, .int .u8 0, .int .u8 0, .int .u8 0, .int .u8 0, .int .u8 0, .int .u8 0, .int .u8 0, .int .u8 0, .int .u8 0, .int .u8 0, .string ⟨#[]⟩, .bool false, .int .i64 0, .int .i64 1, .bool false] W := by
  have := run_loadCells_list (P := Try.prog) W ⟨g, 0, none⟩ (toldE 1).toList (fun j v hv => by
    have hadd : (⟨g, 0, none⟩ : Addr).add j = ⟨g, j, none⟩ := by unfold Addr.add; split <;> simp_all
    rw [hadd, cell_of_row _ _ j (toldE 1) 47 (0, 0) h]
    simpa using hv)
  exact this
theorem same32 (W : World) : (Op.equalIn 9999 33 (.agg #[.int .u8 0, .int .u8 0, .int .u8 0, .int .u8 0, .int .u8 0, .int .u8 0, .int .u8 0, .int .u8 0, .int .u8 0, .int .u8 0, .int .u8 0, .int .u8 0, .int .u8 0, .int .u8 0, .int .u8 0, .int .u8 0, .int .u8 0, .int .u8 0, .int .u8 0, .int .u8 0, .int .u8 0, .int .u8 0, .int .u8 0, .int .u8 0, .int .u8 0, .int .u8 0, .int .u8 0, .int .u8 0, .int .u8 0, .int .u8 0, .int .u8 0, .int .u8 0]) (.agg #[.int .u8 0, .int .u8 0, .int .u8 0, .int .u8 0, .int .u8 0, .int .u8 0, .int .u8 0, .int .u8 0, .int .u8 0, .int .u8 0, .int .u8 0, .int .u8 0, .int .u8 0, .int .u8 0, .int .u8 0, .int .u8 0, .int .u8 0, .int .u8 0, .int .u8 0, .int .u8 0, .int .u8 0, .int .u8 0, .int .u8 0, .int .u8 0, .int .u8 0, .int .u8 0, .int .u8 0, .int .u8 0, .int .u8 0, .int .u8 0, .int .u8 0, .int .u8 0])).run Try.prog W = .ok true W := by kernel_rfl
theorem told_old (W : World) (g : Nat) (h : Lies W g (toldE 0) 47) : (storeCells ⟨g, 0, none⟩ (toldE 1).toList 0).run Try.prog W = .ok () (W.setRow g (toldE 1)) :=
  run_storeCells_from (P := Try.prog) g 47 (toldE 1).toList 0 (toldE 0) W h (by simp [toldE]) (fun v hv => (Array.all_eq_true_iff_forall_mem.1 (told_one 1)) v (by simpa using hv))
theorem setRow_cell (V : World) (g : Nat) (cs' : Array Value) (a : Addr) (h : a.block ≠ g) : (V.setRow g cs').cell? a = V.cell? a := by
  unfold World.cell?
  rw [setRow_other V g a.block cs' h]
theorem NW.setRow {w V : World} {cs : Array Value} (h : NW w V cs) (g : Nat) (hg : w.heap.size + 5 ≤ g) (cs' : Array Value) : NW w (V.setRow g cs') cs :=
  ⟨h.box.setRowOther g cs' (by omega), h.ws.setRowOther g cs' (by omega), h.rs.setRowOther g cs' (by omega), ((setRow_cell V g cs' _ (by show w.heap.size + 1 ≠ g; omega)).trans h.wn), (setRow_cell V g cs' _ (by show w.heap.size + 1 + 1 + 1 ≠ g; omega)).trans h.rn, below_setRow h.below g cs' (by omega)⟩
theorem info35 {cs : Array Value} (h : cs.size = 37) : (Try.prog.info? 35).map (·.size) = some cs.size := by
  rw [h]; kernel_rfl
theorem cells_of {w W : World} {cs : Array Value} (hsz : cs.size = 37) (h : Lies W w.heap.size cs 35) : (loadCellsFrom ⟨w.heap.size, 0, none⟩ 0 37 #[]).run Try.prog W = .ok cs W := by
  have := run_loadCells_list (P := Try.prog) W ⟨w.heap.size, 0, none⟩ cs.toList (fun j v hv => by
    have hadd : (⟨w.heap.size, 0, none⟩ : Addr).add j = ⟨w.heap.size, j, none⟩ := by unfold Addr.add; split <;> simp_all
    rw [hadd, cell_of_row _ _ j cs 35 (0, 0) h]
    simpa using hv)
  rw [← hsz]
  simpa [loadCells] using this
attribute [-go_sem] loadCellsFrom storeCells
set_option maxRecDepth 100000 in
set_option maxHeartbeats 1000000 in
theorem nil_walk (w : World) (cs : Array Value) (hc : PutC cs) : Calls Try.prog 5 #[.agg cs] w fun e w' => e = .returned (.bool true) ∧ Below w.heap.size w w' := by
  have HS := Lib.hid (NW.start w cs)
  have hrun : ∀ W : World, Lies W w.heap.size cs 35 → (loadCellsFrom ⟨w.heap.size, 0, none⟩ 0 37 #[]).run Try.prog W = .ok cs W := fun W hW => cells_of hc.size hW
  have HRUN := Lib.hid hrun
  have HC := Lib.hid hc
  clear hrun hc
  go_enter Try.func5, Try.ntmps5
  go_wp2_with fail
  generalize ((((w.alloc (.cells cs 35)).alloc (.cells #[.pointer none, .bool false, .slice none 0 0] 55)).alloc (.cells #[.pointer none, .pointer (some ⟨w.heap.size + 1, 0, none⟩)] 25)).alloc (.cells #[.pointer none, .bool false, .slice none 0 0, .int .i64 0] 58)).alloc (.cells #[.pointer none, .pointer (some ⟨w.heap.size + 1 + 1 + 1, 0, none⟩)] 42) = W0 at HS ⊢
  go_loopw [5] (fun i wr => ∃ k : Nat, k ≤ 2 ∧ i = .int .i64 k ∧ NW w wr cs) (fun i _ => 2 - (intOf i).toNat)
  case atStart => exact ⟨0, by omega, rfl, HS.out⟩
  case round =>
    obtain ⟨k, hk, rfl, hn⟩ := hrel
    clear HS
    by_cases hlt : k < 2
    · obtain ⟨p, hpk, hpn⟩ := NW.wr w k hlt
      obtain ⟨q, hqk, hqn⟩ := NW.rd w k hlt
      have hw : ∀ V, NW w V cs → V.cell? ⟨w.heap.size + 1 + 1, k, none⟩ = some (.pointer p) := fun V hV => hV.ws.cell k hpk
      have hr : ∀ V, NW w V cs → V.cell? ⟨w.heap.size + 1 + 1 + 1 + 1, k, none⟩ = some (.pointer q) := fun V hV => hV.rs.cell k hqk
      have hw6 : ∀ V, NW w V cs → V.cell? ⟨w.heap.size + 1 + 1, k, none⟩ = some (.pointer p) ∧ (loadCellsFrom ⟨w.heap.size, 0, none⟩ 0 37 #[]).run Try.prog V = .ok cs V := fun V hV => ⟨hw V hV, HRUN.out V hV.box⟩
      have hr8 : ∀ V, NW w V cs → NW w V cs ∧ V.cell? ⟨w.heap.size + 1 + 1 + 1 + 1, k, none⟩ = some (.pointer q) ∧ (loadCellsFrom ⟨w.heap.size, 0, none⟩ 0 37 #[]).run Try.prog V = .ok cs V := fun V hV => ⟨hV, hr V hV, HRUN.out V hV.box⟩
      have HW := Lib.hid hw
      have HR := Lib.hid hr
      have HW6 := Lib.hid hw6
      have HR8 := Lib.hid hr8
      have HPN := Lib.hid hpn
      have HQN := Lib.hid hqn
      have hn0 : NW w wr.drew cs := hn.on (Below.refl _ _).drew
      have HN0 := Lib.hid hn0
      have g1 := (hw6 _ hn0).1
      have g2 := (hw6 _ hn0).2
      clear hn hn0 hw hr hw6 hr8 hpn hqn hpk hqk
      have i1 : (0 : Int) ≤ (k : Int) := by omega
      have i2 : (k : Int) < 2 := by omega
      go_upto_region 6 with fail
      go_region_held3 (fun W => W.cell? ⟨w.heap.size + 1 + 1, k, none⟩ = some (.pointer p) ∧ (loadCellsFrom ⟨w.heap.size, 0, none⟩ 0 37 #[]).run Try.prog W = .ok cs W) (first | exact HW6.out _ (HN0.out.on (by assumption)) | go_keep) (first
        | (with_reducible refine (put_idle _ p cs HC.out (HPN.out _ _ HN0.out).idle).mono ?_; rintro e w1 ⟨rfl, hb1⟩))
      have hn1 := HN0.out.on hb1
      have HN1 := Lib.hid hn1
      have g3 := HW.out _ hn1
      clear hn1 hb1 g1 g2 HN0
      go_wp2_with fail
      refine (wbytes_nobody _ p (HPN.out _ _ HN1.out)).mono ?_
      rintro e w2 ⟨rfl, rfl⟩
      clear g3
      go_upto_region 8 with fail
      have hn2 : NW w w1.drew cs := HN1.out.on (Below.refl _ _).drew
      have HN2 := Lib.hid hn2
      have g1 := (HR8.out _ hn2).2.1
      have g2 := (HR8.out _ hn2).2.2
      have ha : ∀ V o, NW w V cs → NW w (V.alloc o) cs ∧ (V.alloc o).cell? ⟨w.heap.size + 1 + 1 + 1 + 1, k, none⟩ = some (.pointer q) ∧ (loadCellsFrom ⟨w.heap.size, 0, none⟩ 0 37 #[]).run Try.prog (V.alloc o) = .ok cs (V.alloc o) := fun V o hV => HR8.out _ (hV.on ((Below.refl _ _).alloc (Nat.le_refl _) _))
      have HA := Lib.hid ha
      have hb0 : ∀ o, NW w (w1.alloc o).drew cs := fun o => (HN1.out.on ((Below.refl _ _).alloc (Nat.le_refl _) o)).on (Below.refl _ _).drew
      have HB := Lib.hid hb0
      clear hb0
      have hg5 : w.heap.size + 5 ≤ w1.heap.size := by have := HN1.out.rs.lt; omega
      have hsr : ∀ V, NW w V cs → NW w (V.setRow w1.heap.size (toldE 1)) cs ∧ (V.setRow w1.heap.size (toldE 1)).cell? ⟨w.heap.size + 1 + 1 + 1 + 1, k, none⟩ = some (.pointer q) ∧ (loadCellsFrom ⟨w.heap.size, 0, none⟩ 0 37 #[]).run Try.prog (V.setRow w1.heap.size (toldE 1)) = .ok cs (V.setRow w1.heap.size (toldE 1)) := fun V hV => HR8.out _ (hV.setRow _ hg5 _)
      have HSR := Lib.hid hsr
      clear hsr
      clear ha HN1
      go_cut [8] from 15 to 63 (fun t V => ∃ g, t = .pointer (some ⟨g, 0, none⟩) ∧ Lies V g (toldE 1) 47 ∧ w.heap.size ≤ g ∧ NW w V cs)
      case first =>
        go_region_held3 (fun W => NW w W cs ∧ W.cell? ⟨w.heap.size + 1 + 1 + 1 + 1, k, none⟩ = some (.pointer q) ∧ (loadCellsFrom ⟨w.heap.size, 0, none⟩ 0 37 #[]).run Try.prog W = .ok cs W) (first | exact HR8.out _ HN2.out | exact HR8.out _ (by assumption) | exact HA.out _ _ (by assumption) | exact HA.out _ _ HN2.out | exact HSR.out _ (by assumption)) (first
          | (with_reducible refine (tells_nobody w1.drew q cs HC.out (HQN.out _ _ HN2.out)).mono ?_; rintro e w3 ⟨rfl, hb3⟩; have hn3 := NW.on HN2.out hb3; have st := told_new w3)
          | (with_reducible refine (tells_nobody (w1.alloc _).drew q cs HC.out (HQN.out _ _ (HB.out _))).mono ?_; rintro e w3 ⟨rfl, hb3⟩; have hn3 := NW.on (HB.out _) hb3; have hl3 : Lies w3 w1.heap.size (toldE 0) 47 := Lies.below (Lies.new w1 (toldE 0) 47).drew hb3 (by simp); have st := told_old w3 w1.heap.size hl3))
        all_goals
          go_wp2_with fail
          go_meet
        case rel => exact ⟨_, rfl, Lies.new w3 (toldE 1) 47, by have := hb3.size; have := HN2.out.rs.lt; omega, (HA.out _ _ hn3).1⟩
        case rel => exact ⟨_, rfl, hl3.setRow _, by omega, (HSR.out _ hn3).1⟩
      case rest =>
        obtain ⟨g, rfl, hl, hgl, hn⟩ := hcut
        rename_i wc
        have HN3 := Lib.hid hn
        have HL := Lib.hid hl
        have g1 := HR.out _ hn
        have g2 := told_back hl
        have g3 := same32 wc
        clear hn hl
        go_wp2_with fail
        refine (rspoil_idle _ q (HQN.out _ _ HN3.out).idle).mono ?_
        rintro e w4 ⟨rfl, rfl⟩
        go_wp2_with fail
        refine (err_nobody _ q (HQN.out _ _ HN3.out)).mono ?_
        rintro e w5 ⟨rfl, rfl⟩
        go_wp2_with fail
        exact ⟨⟨k + 1, by omega, by simp, HN3.out⟩, by simp [intOf]; omega⟩
    · have hk2 : k = 2 := by omega
      subst hk2
      have hb := hn.below
      clear hn
      go_wp2_with fail
      refine (awake_any wr).mono ?_
      rintro e w1 ⟨rfl, hb1⟩
      go_wp2_with fail
      go_ret
      exact ⟨rfl, hb.trans (hb1.mono hb.size)⟩
end Go.Proofs.Ytjbjagdpemnhiaa
