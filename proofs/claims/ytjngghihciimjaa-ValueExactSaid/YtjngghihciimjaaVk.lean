/-
  An asset as it lies in memory; what it is called; whether its amount is above 0.
-/
import Derived.Test.YtjngghihciimjaaVo
namespace Go.Proofs.Ytjngghihciimjaa
set_option maxRecDepth 100000
open Go.RowKit Go.Sort

theorem list32 (h : List UInt8) (hh : h.length = 32) : ∃ a0 a1 a2 a3 a4 a5 a6 a7 a8 a9 a10 a11 a12 a13 a14 a15 a16 a17 a18 a19 a20 a21 a22 a23 a24 a25 a26 a27 a28 a29 a30 a31 : UInt8, h = [a0, a1, a2, a3, a4, a5, a6, a7, a8, a9, a10, a11, a12, a13, a14, a15, a16, a17, a18, a19, a20, a21, a22, a23, a24, a25, a26, a27, a28, a29, a30, a31] := by
  obtain ⟨a0, h, rfl⟩ : ∃ a t, h = a :: t := by cases h with | nil => simp at hh | cons a t => exact ⟨a, t, rfl⟩
  obtain ⟨a1, h, rfl⟩ : ∃ a t, h = a :: t := by cases h with | nil => simp at hh | cons a t => exact ⟨a, t, rfl⟩
  obtain ⟨a2, h, rfl⟩ : ∃ a t, h = a :: t := by cases h with | nil => simp at hh | cons a t => exact ⟨a, t, rfl⟩
  obtain ⟨a3, h, rfl⟩ : ∃ a t, h = a :: t := by cases h with | nil => simp at hh | cons a t => exact ⟨a, t, rfl⟩
  obtain ⟨a4, h, rfl⟩ : ∃ a t, h = a :: t := by cases h with | nil => simp at hh | cons a t => exact ⟨a, t, rfl⟩
  obtain ⟨a5, h, rfl⟩ : ∃ a t, h = a :: t := by cases h with | nil => simp at hh | cons a t => exact ⟨a, t, rfl⟩
  obtain ⟨a6, h, rfl⟩ : ∃ a t, h = a :: t := by cases h with | nil => simp at hh | cons a t => exact ⟨a, t, rfl⟩
  obtain ⟨a7, h, rfl⟩ : ∃ a t, h = a :: t := by cases h with | nil => simp at hh | cons a t => exact ⟨a, t, rfl⟩
  obtain ⟨a8, h, rfl⟩ : ∃ a t, h = a :: t := by cases h with | nil => simp at hh | cons a t => exact ⟨a, t, rfl⟩
  obtain ⟨a9, h, rfl⟩ : ∃ a t, h = a :: t := by cases h with | nil => simp at hh | cons a t => exact ⟨a, t, rfl⟩
  obtain ⟨a10, h, rfl⟩ : ∃ a t, h = a :: t := by cases h with | nil => simp at hh | cons a t => exact ⟨a, t, rfl⟩
  obtain ⟨a11, h, rfl⟩ : ∃ a t, h = a :: t := by cases h with | nil => simp at hh | cons a t => exact ⟨a, t, rfl⟩
  obtain ⟨a12, h, rfl⟩ : ∃ a t, h = a :: t := by cases h with | nil => simp at hh | cons a t => exact ⟨a, t, rfl⟩
  obtain ⟨a13, h, rfl⟩ : ∃ a t, h = a :: t := by cases h with | nil => simp at hh | cons a t => exact ⟨a, t, rfl⟩
  obtain ⟨a14, h, rfl⟩ : ∃ a t, h = a :: t := by cases h with | nil => simp at hh | cons a t => exact ⟨a, t, rfl⟩
  obtain ⟨a15, h, rfl⟩ : ∃ a t, h = a :: t := by cases h with | nil => simp at hh | cons a t => exact ⟨a, t, rfl⟩
  obtain ⟨a16, h, rfl⟩ : ∃ a t, h = a :: t := by cases h with | nil => simp at hh | cons a t => exact ⟨a, t, rfl⟩
  obtain ⟨a17, h, rfl⟩ : ∃ a t, h = a :: t := by cases h with | nil => simp at hh | cons a t => exact ⟨a, t, rfl⟩
  obtain ⟨a18, h, rfl⟩ : ∃ a t, h = a :: t := by cases h with | nil => simp at hh | cons a t => exact ⟨a, t, rfl⟩
  obtain ⟨a19, h, rfl⟩ : ∃ a t, h = a :: t := by cases h with | nil => simp at hh | cons a t => exact ⟨a, t, rfl⟩
  obtain ⟨a20, h, rfl⟩ : ∃ a t, h = a :: t := by cases h with | nil => simp at hh | cons a t => exact ⟨a, t, rfl⟩
  obtain ⟨a21, h, rfl⟩ : ∃ a t, h = a :: t := by cases h with | nil => simp at hh | cons a t => exact ⟨a, t, rfl⟩
  obtain ⟨a22, h, rfl⟩ : ∃ a t, h = a :: t := by cases h with | nil => simp at hh | cons a t => exact ⟨a, t, rfl⟩
  obtain ⟨a23, h, rfl⟩ : ∃ a t, h = a :: t := by cases h with | nil => simp at hh | cons a t => exact ⟨a, t, rfl⟩
  obtain ⟨a24, h, rfl⟩ : ∃ a t, h = a :: t := by cases h with | nil => simp at hh | cons a t => exact ⟨a, t, rfl⟩
  obtain ⟨a25, h, rfl⟩ : ∃ a t, h = a :: t := by cases h with | nil => simp at hh | cons a t => exact ⟨a, t, rfl⟩
  obtain ⟨a26, h, rfl⟩ : ∃ a t, h = a :: t := by cases h with | nil => simp at hh | cons a t => exact ⟨a, t, rfl⟩
  obtain ⟨a27, h, rfl⟩ : ∃ a t, h = a :: t := by cases h with | nil => simp at hh | cons a t => exact ⟨a, t, rfl⟩
  obtain ⟨a28, h, rfl⟩ : ∃ a t, h = a :: t := by cases h with | nil => simp at hh | cons a t => exact ⟨a, t, rfl⟩
  obtain ⟨a29, h, rfl⟩ : ∃ a t, h = a :: t := by cases h with | nil => simp at hh | cons a t => exact ⟨a, t, rfl⟩
  obtain ⟨a30, h, rfl⟩ : ∃ a t, h = a :: t := by cases h with | nil => simp at hh | cons a t => exact ⟨a, t, rfl⟩
  obtain ⟨a31, h, rfl⟩ : ∃ a t, h = a :: t := by cases h with | nil => simp at hh | cons a t => exact ⟨a, t, rfl⟩
  have : h = [] := by simpa using hh
  subst this
  exact ⟨_, _, _, _, _, _, _, _, _, _, _, _, _, _, _, _, _, _, _, _, _, _, _, _, _, _, _, _, _, _, _, _, rfl⟩
/-- An asset: its name, how much. -/
structure As where
  nm : Nm
  amt : Int
def asC (a : As) : Array Value := B8 a.nm.1 ++ #[.string (txt a.nm.2), .int .i64 a.amt]
/-- The policy has 32 bytes, the amount 64 bits, the name is a text. -/
def AsOk (a : As) : Prop := a.nm.1.length = 32 ∧ a.nm.2.length ≤ maxLen ∧ -9223372036854775808 ≤ a.amt ∧ a.amt < 9223372036854775808
theorem asC_size (a : As) (h : a.nm.1.length = 32) : (asC a).size = 34 := by simp [asC, B8_size, h]
theorem asC_one (a : As) : (asC a).all (·.oneCell') = true := by
  unfold asC
  rw [Array.all_append, B8_one]
  simp [Value.oneCell']
theorem asC_get (a : As) (h : a.nm.1.length = 32) (j : Nat) (hj : j < 32) : (asC a)[j]? = some (.int .u8 (a.nm.1.getD j 0).toNat) := by
  unfold asC
  rw [Array.getElem?_append_left (by rw [B8_size]; omega)]
  exact B8_get _ _ (by omega)
theorem asC_txt (a : As) (h : a.nm.1.length = 32) : (asC a)[32]? = some (.string (txt a.nm.2)) := by
  unfold asC
  rw [Array.getElem?_append_right (by rw [B8_size]; omega), B8_size, h]
  rfl
theorem asC_amt (a : As) (h : a.nm.1.length = 32) : (asC a)[33]? = some (.int .i64 a.amt) := by
  unfold asC
  rw [Array.getElem?_append_right (by rw [B8_size]; omega), B8_size, h]
  rfl
theorem built_called (p : List UInt8) (hp : p.length = 32) (t : ByteArray) : Try.prog.built 68 [(0, .agg (B8 p)), (1, .string t)] = some (B8 p ++ #[.string t]) := by
  obtain ⟨a0, a1, a2, a3, a4, a5, a6, a7, a8, a9, a10, a11, a12, a13, a14, a15, a16, a17, a18, a19, a20, a21, a22, a23, a24, a25, a26, a27, a28, a29, a30, a31, rfl⟩ := list32 p hp
  kernel_rfl
def z33 : Array Value := (Array.replicate 32 (.int .u8 0)).push (.string ⟨#[]⟩)
theorem info_called : (Try.prog.info? 68).map (·.size) = some 33 := by kernel_rfl
theorem info_hash : (Try.prog.info? 26).map (·.size) = some 32 := by kernel_rfl
theorem info_asset : (Try.prog.info? 54).map (·.size) = some 34 := by kernel_rfl
theorem pol_range {w : World} {g off : Nat} {p : List UInt8} (h : Src w g off p) : w.rangeAt g off (B8 p).toList := fun j v hv => by
  have hj : j < p.length := by
    have := (List.getElem?_eq_some_iff.1 hv).1
    rwa [Array.length_toList, B8_size] at this
  rw [Array.getElem?_toList, B8_get _ j hj] at hv
  rw [h j hj]
  exact hv
attribute [-go_sem] Instr.build
set_option maxHeartbeats 1000000 in
theorem callAsset_any (w : World) (a : As) (ha : a.nm.1.length = 32) :
    Calls Try.prog 29 #[.agg (asC a)] w fun e w' => e = .returned (.agg (nmC a.nm)) ∧ Below w.heap.size w w' := by
  obtain ⟨va, hva⟩ : ∃ v, v = asC a := ⟨_, rfl⟩
  obtain ⟨z, hz⟩ : ∃ z, z = z33 := ⟨_, rfl⟩
  rw [← hva]
  have HA := Lib.hid (And.intro hva (And.intro ha hz))
  clear hva ha
  go_enter Try.func29, Try.ntmps29
  go_upto_region 1 with fail
  rw [show (#[Value.int .u8 0, .int .u8 0, .int .u8 0, .int .u8 0, .int .u8 0, .int .u8 0, .int .u8 0, .int .u8 0, .int .u8 0, .int .u8 0, .int .u8 0, .int .u8 0, .int .u8 0, .int .u8 0, .int .u8 0, .int .u8 0, .int .u8 0, .int .u8 0, .int .u8 0, .int .u8 0, .int .u8 0, .int .u8 0, .int .u8 0, .int .u8 0, .int .u8 0, .int .u8 0, .int .u8 0, .int .u8 0, .int .u8 0, .int .u8 0, .int .u8 0, .int .u8 0, .string ⟨#[]⟩] : Array Value) = z from by rw [hz]; kernel_rfl]
  have hl1 : Lies ((w.alloc (.cells va 54)).alloc (.cells z 68)) w.heap.size va 54 := (Lies.new _ _ _).alloc _
  have hl2 : Lies ((w.alloc (.cells va 54)).alloc (.cells z 68)) (w.heap.size + 1) z 68 := by
    have := Lies.new (w.alloc (.cells va 54)) z 68
    simpa using this
  have hb0 : Below w.heap.size w ((w.alloc (.cells va 54)).alloc (.cells z 68)) := ((Below.refl _ _).alloc (Nat.le_refl _) _).alloc (by simp) _
  generalize (w.alloc (.cells va 54)).alloc (.cells z 68) = W0 at hl1 hl2 hb0 ⊢
  rw [HA.out.1] at hl1
  have hp : Src W0 w.heap.size 0 a.nm.1 := fun j hj => by
    rw [Nat.zero_add]
    exact hl1.cell j (asC_get a HA.out.2.1 j (by rw [← HA.out.2.1]; exact hj))
  have c32 := hl1.cell 32 (asC_txt a HA.out.2.1)
  have HP := Lib.hid (And.intro (pol_range hp) (And.intro hl2 hb0))
  have hnm : nmC a.nm = B8 a.nm.1 ++ #[.string (txt a.nm.2)] := rfl
  have hsz : (B8 a.nm.1).size = 32 := by rw [B8_size]; exact HA.out.2.1
  have HN := Lib.hid (And.intro hnm (And.intro hsz (nmC_size a.nm HA.out.2.1)))
  obtain ⟨pv, hpv⟩ : ∃ v, v = B8 a.nm.1 := ⟨_, rfl⟩
  obtain ⟨tv, htv⟩ : ∃ v, v = txt a.nm.2 := ⟨_, rfl⟩
  obtain ⟨nv, hnv⟩ : ∃ v, v = nmC a.nm := ⟨_, rfl⟩
  have hbl : ∀ W, (Instr.build 68 #[(0, .agg pv), (1, .string tv)]).run Try.prog W = .ok (.agg nv) W := fun W => by
    rw [hpv, htv, hnv]
    exact run_build W 68 _ _ (built_called a.nm.1 HA.out.2.1 (txt a.nm.2))
  rw [← hpv] at HP HN
  rw [← htv] at c32
  rw [← hnv] at HN
  have HV := Lib.hid (And.intro hpv hnv)
  clear hl1 hl2 hb0 hp hz hnm hsz hpv htv hnv
  go_wp2_with (first
    | (refine wpList_load_mid rfl 26 _ rfl w.heap.size 0 rfl pv.toList _ HP.out.1 Try.underlying26 rfl (by rw [Array.length_toList, HN.out.2.1]; exact info_hash) ?_)
    | (refine wpList_store_row rfl 68 _ _ rfl (w.heap.size + 1) nv rfl rfl 68 z HP.out.2.1 (by rw [HN.out.2.2]; exact info_called) (by rw [HN.out.2.2, HA.out.2.2]; rfl) (by rw [HV.out.2]; exact nmC_one _) ?_))
  refine bodyPost_ret (v := .agg nv) (results_cell_row (p := 2) (ty := 68) (by kernel_rfl) _ _ (w.heap.size + 1) 68 nv (0, 0) _ rfl (HP.out.2.1.setRow _) Try.underlying68 rfl (by rw [HN.out.2.2]; exact info_called)) rfl ⟨by rw [HV.out.2], below_setRow HP.out.2.2 _ _ (by omega)⟩
set_option maxHeartbeats 400000 in
theorem isPos_any (w : World) (a : As) (ha : a.nm.1.length = 32) :
    Calls Try.prog 27 #[.agg (asC a)] w fun e w' => e = .returned (.bool (decide (1 ≤ a.amt))) ∧ Below w.heap.size w w' := by
  obtain ⟨va, hva⟩ : ∃ v, v = asC a := ⟨_, rfl⟩
  rw [← hva]
  have hl : Lies (w.alloc (.cells va 54)) w.heap.size va 54 := Lies.new _ _ _
  rw [hva] at hl
  have c33 := hl.cell 33 (asC_amt a ha)
  rw [← hva] at c33
  have hb : Below w.heap.size w (w.alloc (.cells va 54)) := (Below.refl _ _).alloc (Nat.le_refl _) _
  have HB := Lib.hid hb
  clear hl hb hva ha
  generalize a.amt = x at c33 ⊢
  go_enter Try.func27, Try.ntmps27
  go_wp2
  go_ret
  exact ⟨rfl, HB.out⟩
end Go.Proofs.Ytjngghihciimjaa
