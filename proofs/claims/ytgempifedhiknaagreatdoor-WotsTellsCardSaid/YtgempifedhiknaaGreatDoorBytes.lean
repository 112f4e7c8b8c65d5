/-
  bytes: the eight numbers as a hash.
-/
import Derived.Test.YtgempifedhiknaaGreatDoorMid
namespace Go.Proofs.YtgempifedhiknaaGreatDoor
set_option maxRecDepth 100000
open Go.RowKit Sha

/-- The first k numbers' bytes, zeros behind them. -/
def outs (l : List (BitVec 32)) (k : Nat) : List UInt8 := (l.take k).flatMap four ++ List.replicate (32 - 4 * k) 0

theorem outs_length (l : List (BitVec 32)) (hl : l.length = 8) (k : Nat) (hk : k ≤ 8) : (outs l k).length = 32 := by
  unfold outs
  rw [List.length_append, List.length_replicate, List.length_flatMap]
  have : (List.map (fun a => (four a).length) (List.take k l)) = List.replicate k 4 := by
    rw [List.eq_replicate_iff]
    refine ⟨by rw [List.length_map, List.length_take]; omega, fun b hb => ?_⟩
    obtain ⟨a, _, rfl⟩ := List.mem_map.1 hb
    rfl
  rw [this, List.sum_replicate_nat]; omega
theorem outs_eight (s : Eight) : outs s.list 8 = s.bytes := by simp [outs, Eight.list, Eight.bytes]
theorem outs_set (s : Eight) (k : Nat) (hk : k < 8) : ((((outs s.list k).set (4 * k) (UInt8.ofNat ((s.list.getD k 0).toNat / 2 ^ 24))).set (4 * k + 1) (UInt8.ofNat ((s.list.getD k 0).toNat / 2 ^ 16))).set (4 * k + 2) (UInt8.ofNat ((s.list.getD k 0).toNat / 2 ^ 8))).set (4 * k + 3) (UInt8.ofNat (s.list.getD k 0).toNat) = outs s.list (k + 1) := by
  match k, hk with
  | 0, _ => rfl
  | 1, _ => rfl
  | 2, _ => rfl
  | 3, _ => rfl
  | 4, _ => rfl
  | 5, _ => rfl
  | 6, _ => rfl
  | 7, _ => rfl
theorem b24 (x : BitVec 32) : (x.toNat : Int) / 16777216 = ((UInt8.ofNat (x.toNat / 2 ^ 24)).toNat : Int) := by
  have := x.isLt; rw [UInt8.toNat_ofNat']; omega
theorem b16 (x : BitVec 32) : (x.toNat : Int) / 65536 % 256 = ((UInt8.ofNat (x.toNat / 2 ^ 16)).toNat : Int) := by
  rw [UInt8.toNat_ofNat']; omega
theorem b08 (x : BitVec 32) : (x.toNat : Int) / 256 % 256 = ((UInt8.ofNat (x.toNat / 2 ^ 8)).toNat : Int) := by
  rw [UInt8.toNat_ofNat']; omega
theorem b00 (x : BitVec 32) : (x.toNat : Int) % 256 = ((UInt8.ofNat x.toNat).toNat : Int) := by
  rw [UInt8.toNat_ofNat']; omega
def z32 : Array Value := B8 (List.replicate 32 0)

def AtB (w : World) (b : Nat) (s : Eight) (rest : Array Value) (T : TypeId) (k : Nat) (wr : World) : Prop :=
  Lies wr b (B32 s.list ++ rest) T ∧ Lies wr w.heap.size z32 24 ∧ Lies wr (w.heap.size + 1) (B8 (outs s.list k)) 24 ∧ Below w.heap.size w wr
theorem AtB.drewN {w : World} {b : Nat} {s : Eight} {rest : Array Value} {T : TypeId} {k : Nat} {wr : World} (h : AtB w b s rest T k wr) (q : Nat) : AtB w b s rest T k (wr.drewN q) := ⟨h.1, h.2.1, h.2.2.1, below_drewN h.2.2.2 q⟩
theorem AtB.start {w : World} {b : Nat} {s : Eight} {rest : Array Value} {T : TypeId} (h : Lies w b (B32 s.list ++ rest) T) : AtB w b s rest T 0 ((w.alloc (.cells z32 24)).alloc (.cells z32 24)) := by
  refine ⟨(h.alloc _).alloc _, (Lies.new w _ _).alloc _, ?_, ((Below.refl _ _).alloc (Nat.le_refl _) _).alloc (by simp) _⟩
  have := Lies.new (w.alloc (.cells z32 24)) z32 24
  simpa [outs, z32] using this
theorem AtB.store {w : World} {b : Nat} {s : Eight} {rest : Array Value} {T : TypeId} {k : Nat} {wr : World} (h : AtB w b s rest T k wr) (hk : k < 8) (v0 v1 v2 v3 : UInt8)
    (h0 : v0 = UInt8.ofNat ((s.list.getD k 0).toNat / 2 ^ 24)) (h1 : v1 = UInt8.ofNat ((s.list.getD k 0).toNat / 2 ^ 16)) (h2 : v2 = UInt8.ofNat ((s.list.getD k 0).toNat / 2 ^ 8)) (h3 : v3 = UInt8.ofNat (s.list.getD k 0).toNat) :
    AtB w b s rest T (k + 1) ((((wr.setCell ⟨w.heap.size + 1, 4 * k, none⟩ (.int .u8 v0.toNat)).setCell ⟨w.heap.size + 1, 4 * k + 1, none⟩ (.int .u8 v1.toNat)).setCell ⟨w.heap.size + 1, 4 * k + 2, none⟩ (.int .u8 v2.toNat)).setCell ⟨w.heap.size + 1, 4 * k + 3, none⟩ (.int .u8 v3.toNat)) := by
  obtain ⟨a1, a2, a3, a4⟩ := h
  have hbn : b < w.heap.size + 1 → True := fun _ => trivial
  have hbne : b ≠ w.heap.size + 1 := by
    intro e
    subst e
    have := a1.symm.trans a3
    simp only [Option.some.injEq, Obj.cells.injEq] at this
    have hsz := congrArg Array.size this.1
    have h0 := congrArg (fun c : Array Value => c[0]?) this.1
    rw [show (B32 s.list ++ rest)[0]? = _ from front_get _ _ 0 (by show 0 < 8; omega), B8_get _ 0 (by rw [outs_length _ rfl _ (by omega)]; omega)] at h0
    simp at h0
  refine ⟨?_, ?_, ?_, ?_⟩
  · exact (((a1.other _ _ hbne).other _ _ hbne).other _ _ hbne).other _ _ hbne
  · exact (((a2.other _ _ (by simp)).other _ _ (by simp)).other _ _ (by simp)).other _ _ (by simp)
  · have := (((a3.set (4 * k) (.int .u8 v0.toNat)).set (4 * k + 1) (.int .u8 v1.toNat)).set (4 * k + 2) (.int .u8 v2.toNat)).set (4 * k + 3) (.int .u8 v3.toNat)
    rw [B8_set, B8_set, B8_set, B8_set, h0, h1, h2, h3, outs_set s k hk] at this
    subst h0 h1 h2 h3
    exact this
  · exact (((a4.setCell (by simp) _).setCell (by simp) _).setCell (by simp) _).setCell (by simp) _

set_option maxRecDepth 100000 in
set_option maxHeartbeats 1000000 in
theorem bytes_any (s : Eight) (rest : Array Value) (T : TypeId) (w : World) (b : Nat) (hb : Lies w b (B32 s.list ++ rest) T) :
    Calls Tryz.prog 64 #[.pointer (some ⟨b, 0, none⟩)] w fun e w' => e = .returned (.agg (B8 s.bytes)) ∧ Below w.heap.size w w' := by
  have HS := Lib.hid (AtB.start hb)
  clear hb
  go_enter Tryz.func64, Tryz.ntmps64
  go_wp2_with fail
  go_loopw [7] (fun i wr => ∃ k : Nat, k ≤ 8 ∧ i = .int .i64 k ∧ AtB w b s rest T k wr) (fun i _ => 8 - (intOf i).toNat)
  case atStart => exact ⟨0, by omega, rfl, HS.out⟩
  case round =>
    obtain ⟨k, hk, rfl, hat⟩ := hrel
    have HAT := Lib.hid hat
    clear hat HS
    by_cases hlt : k < 8
    · have cx := HAT.out.1.cell k (front_get _ _ k (by show k < 8; omega))
      have hlen := outs_length s.list rfl k hk
      have c0 := HAT.out.2.2.1.cell (4 * k) (B8_get _ (4 * k) (by rw [hlen]; omega))
      have c1 := HAT.out.2.2.1.cell (4 * k + 1) (B8_get _ (4 * k + 1) (by rw [hlen]; omega))
      have c2 := HAT.out.2.2.1.cell (4 * k + 2) (B8_get _ (4 * k + 2) (by rw [hlen]; omega))
      have c3 := HAT.out.2.2.1.cell (4 * k + 3) (B8_get _ (4 * k + 3) (by rw [hlen]; omega))
      generalize (outs s.list k).getD (4 * k) 0 = o0 at c0
      generalize (outs s.list k).getD (4 * k + 1) 0 = o1 at c1
      generalize (outs s.list k).getD (4 * k + 2) 0 = o2 at c2
      generalize (outs s.list k).getD (4 * k + 3) 0 = o3 at c3
      have f0 : wr.frozen? ⟨w.heap.size + 1, 4 * k, none⟩ = false := HAT.out.2.2.1.free _
      have f1 : wr.frozen? ⟨w.heap.size + 1, 4 * k + 1, none⟩ = false := HAT.out.2.2.1.free _
      have f2 : wr.frozen? ⟨w.heap.size + 1, 4 * k + 2, none⟩ = false := HAT.out.2.2.1.free _
      have f3 : wr.frozen? ⟨w.heap.size + 1, 4 * k + 3, none⟩ = false := HAT.out.2.2.1.free _
      have ho := fun q => (HAT.out.drewN q).store hlt
      generalize s.list.getD k 0 = x at cx ho
      have HO := Lib.hid ho
      clear ho hlen
      have m4 : (k : Int) < 8 := by omega
      go_wp2_with fail
      go_quiet (fail)
      go_wp2_with fail
      rw [b24 x, b16 x, b08 x, b00 x]
      clear c0 c1 c2 c3 f0 f1 f2 f3 cx
      refine ⟨⟨k + 1, by omega, rfl, HO.out nq _ _ _ _ rfl rfl rfl rfl⟩, ?_⟩
      simp [intOf]; omega
    · have hd : decide ((k : Int) < 8) = false := by simp; omega
      have hk8 : k = 8 := by omega
      have hat := HAT.out
      rw [hk8] at hat
      obtain ⟨h1, h2, h3, h4⟩ := hat
      rw [outs_eight] at h3
      have hz : (B8 s.bytes).size = 32 := by rw [B8_size]; rfl
      have H2 := Lib.hid h2
      have H3 := Lib.hid h3
      have H4 := Lib.hid h4
      clear h1 h2 h3 h4 HAT hk8 hlt hk
      go_wp2_with (first | (refine wpList_load_row rfl 24 _ rfl (w.heap.size + 1) rfl 24 _ (0, 0) _ H3.out Tryz.underlying24 rfl (by rw [hz]; kernel_rfl) ?_) | (refine wpList_store_row rfl 24 _ _ rfl w.heap.size (B8 s.bytes) rfl rfl 24 _ H2.out (by rw [hz]; kernel_rfl) (by rw [hz]; rfl) (B8_one _) ?_))
      refine bodyPost_ret (v := .agg (B8 s.bytes)) (results_cell_row (p := 2) (ty := 24) (by kernel_rfl) _ _ w.heap.size 24 (B8 s.bytes) (0, 0) _ rfl (H2.out.setRow _) Tryz.underlying24 rfl (by rw [hz]; kernel_rfl)) rfl ⟨rfl, below_setRow H4.out _ _ (by omega)⟩
end Go.Proofs.YtgempifedhiknaaGreatDoor
