/-
  The law's own small makers: an asset, a bundle.
-/
import Derived.Test.YtjngghihciimjaaVg
namespace Go.Proofs.Ytjngghihciimjaa
set_option maxRecDepth 100000
open Go.RowKit Go.Sort
attribute [-go_sem] Instr.build

def hash1 (b : UInt8) : List UInt8 := b :: List.replicate 31 0
theorem hash1_len (b : UInt8) : (hash1 b).length = 32 := rfl
theorem built_hash1 (b : UInt8) : Try.prog.built 26 [(0, .int .u8 b.toNat)] = some (B8 (hash1 b)) := by kernel_rfl
theorem built_assetX (p : List UInt8) (hp : p.length = 32) (t : ByteArray) (x : Int) : Try.prog.built 54 [(0, .agg (B8 p)), (1, .string t), (2, .int .i64 x)] = some (B8 p ++ #[.string t, .int .i64 x]) := by
  obtain ⟨a0, a1, a2, a3, a4, a5, a6, a7, a8, a9, a10, a11, a12, a13, a14, a15, a16, a17, a18, a19, a20, a21, a22, a23, a24, a25, a26, a27, a28, a29, a30, a31, rfl⟩ := list32 p hp
  kernel_rfl
set_option maxHeartbeats 1000000 in
theorem asset_any (w : World) (b : UInt8) (t : List UInt8) (x : Int) :
    Calls Try.prog 20 #[.int .u8 b.toNat, .string (txt t), .int .i64 x] w fun e w' => e = .returned (.agg (asC ⟨(hash1 b, t), x⟩)) ∧ Below w.heap.size w w' := by
  obtain ⟨hv, hhv⟩ : ∃ v, v = B8 (hash1 b) := ⟨_, rfl⟩
  obtain ⟨tv, htv⟩ : ∃ v, v = txt t := ⟨_, rfl⟩
  obtain ⟨av, hav⟩ : ∃ v, v = asC ⟨(hash1 b, t), x⟩ := ⟨_, rfl⟩
  obtain ⟨bi, hbi⟩ : ∃ n : Int, n = b.toNat := ⟨_, rfl⟩
  have hb1 : ∀ W, (Instr.build 26 #[(0, .int .u8 bi)]).run Try.prog W = .ok (.agg hv) W := fun W => by
    rw [hhv, hbi]
    exact run_build W 26 _ _ (built_hash1 b)
  have hb2 : ∀ W, (Instr.build 54 #[(0, .agg hv), (1, .string tv), (2, .int .i64 x)]).run Try.prog W = .ok (.agg av) W := fun W => by
    rw [hhv, htv, hav]
    exact run_build W 54 _ _ (built_assetX (hash1 b) (hash1_len b) (txt t) x)
  have hsz : av.size = 34 := by rw [hav]; exact asC_size _ (hash1_len b)
  have h1 : av.all (·.oneCell') = true := by rw [hav]; exact asC_one _
  rw [← hbi, ← htv, ← hav]
  have H := Lib.hid (And.intro hsz h1)
  clear hhv htv hav hbi hsz h1
  go_enter Try.func20, Try.ntmps20
  go_wp2_with (refine wpList_store_row rfl 54 _ _ rfl w.heap.size av rfl rfl 54 z34 (Lies.new w z34 54) (by rw [H.out.1]; exact info_asset) (by rw [H.out.1]; kernel_rfl) H.out.2 ?_)
  rw [World.setRow_alloc_new]
  refine bodyPost_ret (v := .agg av) (results_cell_row (p := 6) (ty := 54) (by kernel_rfl) _ _ w.heap.size 54 av (0, 0) _ rfl (Lies.new _ _ _) Try.underlying54 rfl (by rw [H.out.1]; exact info_asset)) rfl ⟨rfl, (Below.refl _ _).alloc (Nat.le_refl _) _⟩
theorem built_value (x : Int) (pa : Option Addr) (n c : Nat) : Try.prog.built 24 [(0, .int .i64 x), (1, .slice pa n c)] = some #[.int .i64 x, .slice pa n c] := by kernel_rfl
set_option maxHeartbeats 1000000 in
theorem ofV_any (w : World) (x : Int) (pa : Option Addr) (n c : Nat) :
    Calls Try.prog 19 #[.int .i64 x, .slice pa n c] w fun e w' => e = .returned (.agg (vC x pa n c)) ∧ Below w.heap.size w w' := by
  have hb1 : ∀ W, (Instr.build 24 #[(0, .int .i64 x), (1, .slice pa n c)]).run Try.prog W = .ok (.agg #[.int .i64 x, .slice pa n c]) W := fun W => run_build W 24 _ _ (built_value x pa n c)
  go_enter Try.func19, Try.ntmps19
  go_wp2
  refine bodyPost_ret (v := .agg (vC x pa n c)) (results_cell_row (p := 4) (ty := 24) (by kernel_rfl) _ _ w.heap.size 24 (vC x pa n c) (0, 0) _ rfl (Lies.new _ _ _) Try.underlying24 rfl info_value) rfl ⟨rfl, (Below.refl _ _).alloc (Nat.le_refl _) _⟩
end Go.Proofs.Ytjngghihciimjaa
