/-
  Two names, two assets: does the program find them the same?
-/
import Derived.Test.YtilbbemdinpjcaaGreatJVo
import Derived.RegionTactic
import Derived.Deep.RegionHeld3
import Derived.Deep.MidRow
import Derived.DeepKeys
import Derived.Laws.StructEq
set_option maxHeartbeats 16000000
namespace Go.Proofs.YtilbbemdinpjcaaGreat
set_option maxRecDepth 100000
open Go.RowKit Go.Sort
theorem list32 (h : List UInt8) (hh : h.length = 32) : ∃ a0 a1 a2 a3 a4 a5 a6 a7 a8 a9 a10 a11 a12 a13 a14 a15 a16 a17 a18 a19 a20 a21 a22 a23 a24 a25 a26 a27 a28 a29 a30 a31 : UInt8, h = [a0, a1, a2, a3, a4, a5, a6, a7, a8, a9, a10, a11, a12, a13, a14, a15, a16, a17, a18, a19, a20, a21, a22, a23, a24, a25, a26, a27, a28, a29, a30, a31] := by
 obtain ⟨a0, h, rfl⟩ : ∃ a t, h = a :: t := by cases h with | nil => simp at hh | cons a t => exact ⟨a, t, rfl⟩
 obtain ⟨a1, h, rfl⟩ : ∃ a t, h = a :: t := by cases h with | nil => simp at hh | cons a t => exact ⟨a, t, rfl⟩
 obtain ⟨a2, h, rfl⟩ : ∃ a t, h = a :: t := by cases h with | nil => simp at hh | cons a t => exact ⟨a, t, rfl⟩
 obtain ⟨a3, h, rfl⟩ : ∃ a t, h = a :: t := by cases h with | nil => simp at hh | cons a t => exact ⟨a, t, rfl⟩
 obtain ⟨a4, h, rfl⟩ : ∃ a t, h = a :: t := by cases h with | nil => simp at hh | cons a t => exact ⟨a, t, rfl⟩
 obtain ⟨a5, h, rfl⟩ : ∃ a t, h = a :: t := by cases h with | nil => simp at hh | cons a t => exact ⟨a, t, rfl⟩
 obtain ⟨a6, h, rfl⟩ : ∃ a t, h = a :: t := by cases h with | nil => simp at hh | cons a t => exact ⟨a, t, rfl⟩
 obtain ⟨a7, h, rfl⟩ : ∃ a t, h = a :: t := by cases h with | nil => simp at hh | cons a t => exact ⟨a, t, rfl⟩
 obtain ⟨a8, h, rfl⟩ : ∃ a t, h = a :: t := by cases h with | nil => simp at hh | cons a t => exact ⟨a, t, rfl⟩
 obtain ⟨a9, h, rfl⟩ : ∃ a t, h = a :: t := by cases h with | nil => simp at hh | cons a t => exact ⟨a, t, rfl⟩
 obtain ⟨a10, h, rfl⟩ : ∃ a t, h = a :: t := by cases h with | nil => simp at hh | cons a t => exact ⟨a, t, rfl⟩
 obtain ⟨a11, h, rfl⟩ : ∃ a t, h = a :: t := by cases h with | nil => simp at hh | cons a t => exact ⟨a, t, rfl⟩
 obtain ⟨a12, h, rfl⟩ : ∃ a t, h = a :: t := by cases h with | nil => simp at hh | cons a t => exact ⟨a, t, rfl⟩
 obtain ⟨a13, h, rfl⟩ : ∃ a t, h = a :: t := by cases h with | nil => simp at hh | cons a t => exact ⟨a, t, rfl⟩
 obtain ⟨a14, h, rfl⟩ : ∃ a t, h = a :: t := by cases h with | nil => simp at hh | cons a t => exact ⟨a, t, rfl⟩
 obtain ⟨a15, h, rfl⟩ : ∃ a t, h = a :: t := by cases h with | nil => simp at hh | cons a t => exact ⟨a, t, rfl⟩
 obtain ⟨a16, h, rfl⟩ : ∃ a t, h = a :: t := by cases h with | nil => simp at hh | cons a t => exact ⟨a, t, rfl⟩
 obtain ⟨a17, h, rfl⟩ : ∃ a t, h = a :: t := by cases h with | nil => simp at hh | cons a t => exact ⟨a, t, rfl⟩
 obtain ⟨a18, h, rfl⟩ : ∃ a t, h = a :: t := by cases h with | nil => simp at hh | cons a t => exact ⟨a, t, rfl⟩
 obtain ⟨a19, h, rfl⟩ : ∃ a t, h = a :: t := by cases h with | nil => simp at hh | cons a t => exact ⟨a, t, rfl⟩
 obtain ⟨a20, h, rfl⟩ : ∃ a t, h = a :: t := by cases h with | nil => simp at hh | cons a t => exact ⟨a, t, rfl⟩
 obtain ⟨a21, h, rfl⟩ : ∃ a t, h = a :: t := by cases h with | nil => simp at hh | cons a t => exact ⟨a, t, rfl⟩
 obtain ⟨a22, h, rfl⟩ : ∃ a t, h = a :: t := by cases h with | nil => simp at hh | cons a t => exact ⟨a, t, rfl⟩
 obtain ⟨a23, h, rfl⟩ : ∃ a t, h = a :: t := by cases h with | nil => simp at hh | cons a t => exact ⟨a, t, rfl⟩
 obtain ⟨a24, h, rfl⟩ : ∃ a t, h = a :: t := by cases h with | nil => simp at hh | cons a t => exact ⟨a, t, rfl⟩
 obtain ⟨a25, h, rfl⟩ : ∃ a t, h = a :: t := by cases h with | nil => simp at hh | cons a t => exact ⟨a, t, rfl⟩
 obtain ⟨a26, h, rfl⟩ : ∃ a t, h = a :: t := by cases h with | nil => simp at hh | cons a t => exact ⟨a, t, rfl⟩
 obtain ⟨a27, h, rfl⟩ : ∃ a t, h = a :: t := by cases h with | nil => simp at hh | cons a t => exact ⟨a, t, rfl⟩
 obtain ⟨a28, h, rfl⟩ : ∃ a t, h = a :: t := by cases h with | nil => simp at hh | cons a t => exact ⟨a, t, rfl⟩
 obtain ⟨a29, h, rfl⟩ : ∃ a t, h = a :: t := by cases h with | nil => simp at hh | cons a t => exact ⟨a, t, rfl⟩
 obtain ⟨a30, h, rfl⟩ : ∃ a t, h = a :: t := by cases h with | nil => simp at hh | cons a t => exact ⟨a, t, rfl⟩
 obtain ⟨a31, h, rfl⟩ : ∃ a t, h = a :: t := by cases h with | nil => simp at hh | cons a t => exact ⟨a, t, rfl⟩
 have : h = [] := by simpa using hh
 subst this
 exact ⟨_, _, _, _, _, _, _, _, _, _, _, _, _, _, _, _, _, _, _, _, _, _, _, _, _, _, _, _, _, _, _, _, rfl⟩
structure As where
 nm : Nm
 amt : Int
def asC (a : As) : Array Value := B8 a.nm.1 ++ #[.string (txt a.nm.2), .int .i64 a.amt]
def AsOk (a : As) : Prop := a.nm.1.length = 32 ∧ a.nm.2.length ≤ maxLen ∧ -9223372036854775808 ≤ a.amt ∧ a.amt < 9223372036854775808
theorem asC_size (a : As) (h : a.nm.1.length = 32) : (asC a).size = 34 := by simp [asC, B8_size, h]
theorem asC_one (a : As) : (asC a).all (·.oneCell') = true := by
 unfold asC
 rw [Array.all_append, B8_one]
 simp [Value.oneCell']
theorem asC_get (a : As) (h : a.nm.1.length = 32) (j : Nat) (hj : j < 32) : (asC a)[j]? = some (.int .u8 (a.nm.1.getD j 0).toNat) := by
 unfold asC
 rw [Array.getElem?_append_left (by rw [B8_size]; omega)]
 exact B8_get _ _ (by omega)
theorem asC_txt (a : As) (h : a.nm.1.length = 32) : (asC a)[32]? = some (.string (txt a.nm.2)) := by
 unfold asC
 rw [Array.getElem?_append_right (by rw [B8_size]; omega), B8_size, h]
 rfl
theorem asC_amt (a : As) (h : a.nm.1.length = 32) : (asC a)[33]? = some (.int .i64 a.amt) := by
 unfold asC
 rw [Array.getElem?_append_right (by rw [B8_size]; omega), B8_size, h]
 rfl
theorem built_called (p : List UInt8) (hp : p.length = 32) (t : ByteArray) : Tryz.prog.built 255 [(0, .agg (B8 p)), (1, .string t)] = some (B8 p ++ #[.string t]) := by
 obtain ⟨a0, a1, a2, a3, a4, a5, a6, a7, a8, a9, a10, a11, a12, a13, a14, a15, a16, a17, a18, a19, a20, a21, a22, a23, a24, a25, a26, a27, a28, a29, a30, a31, rfl⟩ := list32 p hp
 kernel_rfl
def z33 : Array Value := (Array.replicate 32 (.int .u8 0)).push (.string ⟨#[]⟩)
theorem info_called : (Tryz.prog.info? 255).map (·.size) = some 33 := by kernel_rfl
theorem info_hash : (Tryz.prog.info? 30).map (·.size) = some 32 := by kernel_rfl
theorem info_asset : (Tryz.prog.info? 146).map (·.size) = some 34 := by kernel_rfl
theorem pol_range {w : World} {g off : Nat} {p : List UInt8} (h : Src w g off p) : w.rangeAt g off (B8 p).toList := fun j v hv => by
 have hj : j < p.length := by
  have := (List.getElem?_eq_some_iff.1 hv).1
  rwa [Array.length_toList, B8_size] at this
 rw [Array.getElem?_toList, B8_get _ j hj] at hv
 rw [h j hj]
 exact hv
attribute [-go_sem] Instr.build
theorem callAsset_any (w : World) (a : As) (ha : a.nm.1.length = 32) :
  Calls Tryz.prog 131 #[.agg (asC a)] w fun e w' => e = .returned (.agg (nmC a.nm)) ∧ Below w.heap.size w w' := by
 obtain ⟨va, hva⟩ : ∃ v, v = asC a := ⟨_, rfl⟩
 obtain ⟨z, hz⟩ : ∃ z, z = z33 := ⟨_, rfl⟩
 rw [← hva]
 have HA := Lib.hid (And.intro hva (And.intro ha hz))
 clear hva ha
 go_enter Tryz.func131, Tryz.ntmps131
 go_upto_region 1 with fail
 rw [show (#[Value.int .u8 0, .int .u8 0, .int .u8 0, .int .u8 0, .int .u8 0, .int .u8 0, .int .u8 0, .int .u8 0, .int .u8 0, .int .u8 0, .int .u8 0, .int .u8 0, .int .u8 0, .int .u8 0, .int .u8 0, .int .u8 0, .int .u8 0, .int .u8 0, .int .u8 0, .int .u8 0, .int .u8 0, .int .u8 0, .int .u8 0, .int .u8 0, .int .u8 0, .int .u8 0, .int .u8 0, .int .u8 0, .int .u8 0, .int .u8 0, .int .u8 0, .int .u8 0, .string ⟨#[]⟩] : Array Value) = z from by rw [hz]; kernel_rfl]
 have hl1 : Lies ((w.alloc (.cells va 146)).alloc (.cells z 255)) w.heap.size va 146 := (Lies.new _ _ _).alloc _
 have hl2 : Lies ((w.alloc (.cells va 146)).alloc (.cells z 255)) (w.heap.size + 1) z 255 := by
  have := Lies.new (w.alloc (.cells va 146)) z 255
  simpa using this
 have hb0 : Below w.heap.size w ((w.alloc (.cells va 146)).alloc (.cells z 255)) := ((Below.refl _ _).alloc (Nat.le_refl _) _).alloc (by simp) _
 generalize (w.alloc (.cells va 146)).alloc (.cells z 255) = W0 at hl1 hl2 hb0 ⊢
 rw [HA.out.1] at hl1
 have hp : Src W0 w.heap.size 0 a.nm.1 := fun j hj => by
  rw [Nat.zero_add]
  exact hl1.cell j (asC_get a HA.out.2.1 j (by rw [← HA.out.2.1]; exact hj))
 have c32 := hl1.cell 32 (asC_txt a HA.out.2.1)
 have HP := Lib.hid (And.intro (pol_range hp) (And.intro hl2 hb0))
 have hnm : nmC a.nm = B8 a.nm.1 ++ #[.string (txt a.nm.2)] := rfl
 have hsz : (B8 a.nm.1).size = 32 := by rw [B8_size]; exact HA.out.2.1
 have HN := Lib.hid (And.intro hnm (And.intro hsz (nmC_size a.nm HA.out.2.1)))
 obtain ⟨pv, hpv⟩ : ∃ v, v = B8 a.nm.1 := ⟨_, rfl⟩
 obtain ⟨tv, htv⟩ : ∃ v, v = txt a.nm.2 := ⟨_, rfl⟩
 obtain ⟨nv, hnv⟩ : ∃ v, v = nmC a.nm := ⟨_, rfl⟩
 have hbl : ∀ W, (Instr.build 255 #[(0, .agg pv), (1, .string tv)]).run Tryz.prog W = .ok (.agg nv) W := fun W => by
  rw [hpv, htv, hnv]
  exact run_build W 255 _ _ (built_called a.nm.1 HA.out.2.1 (txt a.nm.2))
 rw [← hpv] at HP HN
 rw [← htv] at c32
 rw [← hnv] at HN
 have HV := Lib.hid (And.intro hpv hnv)
 clear hl1 hl2 hb0 hp hz hnm hsz hpv htv hnv
 go_wp2_with (first
  | (refine wpList_load_mid rfl 30 _ rfl w.heap.size 0 rfl pv.toList _ HP.out.1 Tryz.underlying30 rfl (by rw [Array.length_toList, HN.out.2.1]; exact info_hash) ?_)
  | (refine wpList_store_row rfl 255 _ _ rfl (w.heap.size + 1) nv rfl rfl 255 z HP.out.2.1 (by rw [HN.out.2.2]; exact info_called) (by rw [HN.out.2.2, HA.out.2.2]; rfl) (by rw [HV.out.2]; exact nmC_one _) ?_))
 refine bodyPost_ret (v := .agg nv) (results_cell_row (p := 2) (ty := 255) (by kernel_rfl) _ _ (w.heap.size + 1) 255 nv (0, 0) _ rfl (HP.out.2.1.setRow _) Tryz.underlying255 rfl (by rw [HN.out.2.2]; exact info_called)) rfl ⟨by rw [HV.out.2], below_setRow HP.out.2.2 _ _ (by omega)⟩
theorem isPos_any (w : World) (a : As) (ha : a.nm.1.length = 32) :
  Calls Tryz.prog 129 #[.agg (asC a)] w fun e w' => e = .returned (.bool (decide (1 ≤ a.amt))) ∧ Below w.heap.size w w' := by
 obtain ⟨va, hva⟩ : ∃ v, v = asC a := ⟨_, rfl⟩
 rw [← hva]
 have hl : Lies (w.alloc (.cells va 146)) w.heap.size va 146 := Lies.new _ _ _
 rw [hva] at hl
 have c33 := hl.cell 33 (asC_amt a ha)
 rw [← hva] at c33
 have hb : Below w.heap.size w (w.alloc (.cells va 146)) := (Below.refl _ _).alloc (Nat.le_refl _) _
 have HB := Lib.hid hb
 clear hl hb hva ha
 generalize a.amt = x at c33 ⊢
 go_enter Tryz.func129, Tryz.ntmps129
 go_wp2
 go_ret
 exact ⟨rfl, HB.out⟩
end Go.Proofs.YtilbbemdinpjcaaGreat
namespace Go.Proofs.YtilbbemdinpjcaaGreat
set_option maxRecDepth 100000
open Go.RowKit
section
variable {P : Program} {ops : Array Oper} {Q : Exit → Act → World → Prop}
theorem wanted_bare {o : Oper} {a : Act} (hg : o.guard = none) : Region.wanted o (yielded ops a.tmps) = true := by simp [Region.wanted, hg]
theorem wpOp_call {i : Nat} {o : Oper} {a : Act} {w : World} {K : Act → World → Prop} (hi : ops[i]? = some o) (hg : o.guard = none) (f : FuncId) (args : Array Value)
  (hr : (execOp a.eval o).run P w = .ok (.enter f args) w) (R : Value → World → Prop) (hc : Calls P f args w fun e w' => ∃ v, e = .returned v ∧ R v w') (h : ∀ v w', R v w' → K (a.put o.dst v) w') : wpOp P ops Q i K a w := by
 unfold wpOp
 rw [hi]
 show if Region.wanted o (yielded ops a.tmps) = true then _ else _
 rw [if_pos (wanted_bare hg)]
 refine .inl ?_
 unfold Oper.wp
 rw [hr, Oper.upon_enter]
 refine hc.mono fun e w' hh => ?_
 obtain ⟨v, rfl, hR⟩ := hh
 exact h v w' hR
theorem wpOp_wp {i : Nat} {o : Oper} {a : Act} {w : World} {K : Act → World → Prop} (hi : ops[i]? = some o) (hg : o.guard = none) (h : o.wp P a w K Q) : wpOp P ops Q i K a w := by
 unfold wpOp
 rw [hi]
 show if Region.wanted o (yielded ops a.tmps) = true then _ else _
 rw [if_pos (wanted_bare hg)]
 exact .inl h
theorem wpOp_callTo {i : Nat} {o : Oper} {a : Act} {w : World} {K : Act → World → Prop} (hi : ops[i]? = some o) (hg : o.guard = none) (d : Tmp) (hd : o.dst = some d) (f : FuncId) (args : Array Value)
  (hr : (execOp a.eval o).run P w = .ok (.enter f args) w) (R : Value → World → Prop) (hc : Calls P f args w fun e w' => ∃ v, e = .returned v ∧ R v w') (h : ∀ v w', R v w' → K (a.put (some d) v) w') : wpOp P ops Q i K a w :=
 wpOp_call hi hg f args hr R hc (by rw [hd]; exact h)
theorem wpOp_valueTo {i : Nat} {o : Oper} {a : Act} {w w' : World} {K : Act → World → Prop} {v : Value} (hi : ops[i]? = some o) (hg : o.guard = none) (d : Tmp) (hd : o.dst = some d)
  (hr : (execOp a.eval o).run P w = .ok (.value v) w') (h : K (a.put (some d) v) w') : wpOp P ops Q i K a w := by
 refine wpOp_wp hi hg ?_
 unfold Oper.wp
 rw [hr, Oper.upon_value, hd]
 exact h
end
section
variable {P : Program} {ops : Array Oper} {Q : Exit → Act → World → Prop} {md : Region.Mode} {S : World → Prop}
theorem held_take {i : Nat} {oi : Oper} {v : Value} {fuel : Nat} {listed : Array Bool} {a : Act} {w : World} (hi : ops[i]? = some oi) (d : Tmp) (hd : oi.dst = some d)
  (hs : Region.noSelect ops = true) (hf : Region.free md ops listed i = true) (hr : (Region.ready md ops listed).contains i = true) (hQ : ∀ c a w, Q (.panic c) (a.put (some d) v) w → Q (.panic c) a w)
  (hw : Region.wanted oi (yielded ops a.tmps) = true) (hy : ∀ w, S w → (execOp a.eval oi).run P w = .ok (.value v) w) (hS : S w) (l2 : Array Bool) (hl : listed.setIfInBounds i true = l2)
  (h : wpAnyH P md ops Q S fuel l2 (a.put (some d) v) w) : wpAnyH P md ops Q S (fuel + 1) listed a w := by
 subst hl
 rw [← hd] at h hQ
 exact wpAnyH_take hi hs hf hr hQ (.inl ⟨hw, hy⟩) hS h
theorem tk {oi : Oper} {a' : Act} {fuel : Nat} {listed : Array Bool} {a : Act} {w : World} (i : Nat) (v : Value) (d : Tmp) (hi : ops[i]? = some oi) (hd : oi.dst = some d) (hS : S w)
  (h : wpAnyH P md ops Q S fuel (listed.setIfInBounds i true) a' w) (hy : ∀ w, S w → (execOp a.eval oi).run P w = .ok (.value v) w := by intro w' hS'; unfold execOp; simp [go_sem])
  (hs : Region.noSelect ops = true := by kernel_rfl) (hf : Region.free md ops listed i = true := by kernel_rfl) (hr : (Region.ready md ops listed).contains i = true := by kernel_rfl)
  (hQ : ∀ c a w, Q (.panic c) (a.put (some d) v) w → Q (.panic c) a w := by exact fun _ _ _ h => h) (hw : Region.wanted oi (yielded ops a.tmps) = true := by rfl)
  (ha : a.put (some d) v = a' := by simp only [Act.put, List.setIfInBounds_toArray, List.set_cons_zero, List.set_cons_succ]; rfl) : wpAnyH P md ops Q S (fuel + 1) listed a w := by
 subst ha
 exact held_take hi d hd hs hf hr hQ hw hy hS _ rfl h
theorem held_skip {i : Nat} {oi : Oper} {fuel : Nat} {listed : Array Bool} {a : Act} {w : World} (hi : ops[i]? = some oi) (d : Tmp) (hd : oi.dst = some d)
  (hs : Region.noSelect ops = true) (hf : Region.free md ops listed i = true) (hr : (Region.ready md ops listed).contains i = true) (hQ : ∀ c a w, Q (.panic c) (a.put (some d) undef) w → Q (.panic c) a w)
  (hw : Region.wanted oi (yielded ops a.tmps) = false) (hS : S w) (l2 : Array Bool) (hl : listed.setIfInBounds i true = l2)
  (h : wpAnyH P md ops Q S fuel l2 (a.put (some d) undef) w) : wpAnyH P md ops Q S (fuel + 1) listed a w := by
 subst hl
 rw [← hd] at h hQ
 exact wpAnyH_take hi hs hf hr hQ (.inr ⟨hw, rfl⟩) hS h
theorem held_one {i : Nat} {fuel : Nat} {listed : Array Bool} {a : Act} {w : World} (hr : Region.ready md ops listed = [i]) (l2 : Array Bool) (hl : listed.setIfInBounds i true = l2)
  (h : wpOp P ops Q i (fun a' w' => S w' ∧ wpAnyH P md ops Q S fuel l2 a' w') a w) : wpAnyH P md ops Q S (fuel + 1) listed a w := by
 subst hl
 refine wpAnyH_all hr (by simp) ?_
 intro j hj
 obtain rfl : j = i := by simpa using hj
 exact h
theorem wpOp_valG {i : Nat} {o : Oper} {a : Act} {w w' : World} {K : Act → World → Prop} {v : Value} (hi : ops[i]? = some o) (hw : Region.wanted o (yielded ops a.tmps) = true) (d : Tmp) (hd : o.dst = some d)
  (hr : (execOp a.eval o).run P w = .ok (.value v) w') (h : K (a.put (some d) v) w') : wpOp P ops Q i K a w := by
 unfold wpOp
 rw [hi]
 show if Region.wanted o (yielded ops a.tmps) = true then _ else _
 rw [if_pos hw]
 refine .inl ?_
 unfold Oper.wp
 rw [hr, Oper.upon_value, hd]
 exact h
theorem wpOp_callG {i : Nat} {o : Oper} {a : Act} {w : World} {K : Act → World → Prop} (hi : ops[i]? = some o) (hw : Region.wanted o (yielded ops a.tmps) = true) (d : Tmp) (hd : o.dst = some d) (f : FuncId) (args : Array Value)
  (hr : (execOp a.eval o).run P w = .ok (.enter f args) w) (R : Value → World → Prop) (hc : Calls P f args w fun e w' => ∃ v, e = .returned v ∧ R v w') (h : ∀ v w', R v w' → K (a.put (some d) v) w') : wpOp P ops Q i K a w := by
 unfold wpOp
 rw [hi]
 show if Region.wanted o (yielded ops a.tmps) = true then _ else _
 rw [if_pos hw]
 refine .inl ?_
 unfold Oper.wp
 rw [hr, Oper.upon_enter]
 refine hc.mono fun e w' hh => ?_
 obtain ⟨v, rfl, hR⟩ := hh
 rw [hd]
 exact h v w' hR
end
theorem exec_loadM {P : Program} {o : Oper} {a : Act} {w : World} (ty : TypeId) (x : Operand) (ho : o.op = .load ty x) (b p : Nat) (hx : a.eval x = .pointer (some ⟨b, p, none⟩)) (cs : Array Value) {d : TypeDesc} (hc : w.rangeAt b p cs.toList) (hu : P.underlying ty = some d) (hd : d.isRow = true) (hi : (P.info? ty).map (·.size) = some cs.size) :
  (execOp a.eval o).run P w = .ok (.value (.agg cs)) w := by
 have h := run_loadAt_mid (P := P) w b p ty cs.toList _ hc hu hd (by rw [Array.length_toList]; exact hi)
 unfold execOp
 rw [Array.toArray_toList] at h
 simp only [ho, hx, Sem.run_bind, h, Result.andThen_ok]
 rfl
theorem range_lies {w : World} {b : Nat} {cs : Array Value} {t : TypeId} (h : Lies w b cs t) : w.rangeAt b 0 cs.toList := fun j v hv => by
 rw [Nat.zero_add]
 exact h.cell j (by rw [← Array.getElem?_toList]; exact hv)
end Go.Proofs.YtilbbemdinpjcaaGreat
namespace Go.Proofs.YtilbbemdinpjcaaGreat
set_option maxRecDepth 100000
open Go.RowKit Go.Sort
theorem keyed_asset : Tryz.prog.keyTypeAt 5 146 = true := by kernel_rfl
def litN (n : Nm) : List Lit := n.1.map (fun b => Lit.int .u8 b.toNat) ++ [.string n.2]
def litA (a : As) : List Lit := litN a.nm ++ [.int .i64 a.amt]
theorem map_u8_inj : ∀ {l m : List UInt8}, l.map (fun b => Lit.int .u8 b.toNat) = m.map (fun b => Lit.int .u8 b.toNat) → l = m
  | [], [], _ => rfl
  | [], _ :: _, h => by simp at h
  | _ :: _, [], h => by simp at h
  | a :: l, b :: m, h => by
    simp only [List.map_cons, List.cons.injEq, Lit.int.injEq, true_and] at h
    have e : a = b := UInt8.toNat_inj.1 (by omega)
    rw [e, map_u8_inj h.2]
theorem litN_inj {a b : Nm} (ha : a.1.length = 32) (hb : b.1.length = 32) (h : litN a = litN b) : a = b := by
 unfold litN at h
 have := List.append_inj h (by simp [ha, hb])
 simp only [List.cons.injEq, Lit.string.injEq, and_true] at this
 exact Prod.ext (map_u8_inj this.1) this.2
theorem litA_inj {a b : As} (ha : a.nm.1.length = 32) (hb : b.nm.1.length = 32) (h : litA a = litA b) : a = b := by
 unfold litA at h
 have := List.append_inj h (by simp [litN, ha, hb])
 simp only [List.cons.injEq, Lit.int.injEq, true_and, and_true] at this
 obtain ⟨n, x⟩ := a
 obtain ⟨m, y⟩ := b
 simp only at this
 rw [litN_inj (a := n) (b := m) ha hb this.1, this.2]
theorem u8wf (b : UInt8) : (Lit.int .u8 (b.toNat : Int)).wf = true := by
 have h := b.toNat_lt
 show (decide ((0 : Int) ≤ (b.toNat : Int)) && decide ((b.toNat : Int) ≤ 255)) = true
 rw [Bool.and_eq_true_iff, decide_eq_true_iff, decide_eq_true_iff]
 omega
theorem lit8 (d : Nat) (b : UInt8) : Tryz.prog.keyLits (d + 1) 5 [.int .u8 b.toNat] = some [.int .u8 b.toNat] := by
 simp [Program.keyLits, Tryz.underlying5, u8wf]
theorem litT (d : Nat) (t : List UInt8) (h : t.length ≤ maxLen) : Tryz.prog.keyLits (d + 1) 9 [.string (txt t)] = some [.string t] := by
 have hs : (txt t).size = t.length := by show t.toArray.size = _; simp
 simp [Program.keyLits, Tryz.underlying9, hs, h]
 rfl
theorem litI (d : Nat) (x : Int) (h0 : -9223372036854775808 ≤ x) (h1 : x < 9223372036854775808) : Tryz.prog.keyLits (d + 1) 2 [.int .i64 x] = some [.int .i64 x] := by
 have : (Lit.int .i64 x).wf = true := by
  show (decide ((-9223372036854775808 : Int) ≤ x) && decide (x ≤ 9223372036854775807)) = true
  rw [Bool.and_eq_true_iff, decide_eq_true_iff, decide_eq_true_iff]
  omega
 simp [Program.keyLits, Tryz.underlying2, this]
theorem cells26 : Tryz.prog.cellsOf 30 = 32 := by kernel_rfl
theorem cells5 : Tryz.prog.cellsOf 5 = 1 := by kernel_rfl
theorem cells9 : Tryz.prog.cellsOf 9 = 1 := by kernel_rfl
theorem cells2 : Tryz.prog.cellsOf 2 = 1 := by kernel_rfl
theorem cells68 : Tryz.prog.cellsOf 255 = 33 := by kernel_rfl
theorem cells54 : Tryz.prog.cellsOf 146 = 34 := by kernel_rfl
theorem mapM_items {α β : Type} (f : Nat → Option β) (g : Nat → β) : ∀ is : List Nat, (∀ i, i ∈ is → f i = some (g i)) → is.mapM f = some (is.map g)
  | [], _ => rfl
  | i :: is, h => by
    rw [List.mapM_cons, h i (by simp), mapM_items (α := α) f g is (fun j hj => h j (by simp [hj]))]
    rfl
theorem litsH (d : Nat) (p : List UInt8) (h : p.length = 32) : Tryz.prog.keyLits (d + 2) 30 (B8 p).toList = some (p.map fun b => Lit.int .u8 b.toNat) := by
 have hl : (B8 p).toList.length = 32 := by rw [Array.length_toList, B8_size, h]
 have hm := mapM_items (α := Nat) (fun i => Tryz.prog.keyLits (d + 1) 5 (((B8 p).toList.drop (i * 1)).take 1)) (fun i => [Lit.int .u8 (p.getD i 0).toNat]) (List.range 32) (fun i hi => by
  have hi : i < p.length := by rw [h]; exact List.mem_range.1 hi
  have e : ((B8 p).toList.drop (i * 1)).take 1 = [.int .u8 (p.getD i 0).toNat] := by
   rw [Nat.mul_one, List.drop_eq_getElem_cons (by rw [hl]; omega), List.take_succ_cons, List.take_zero]
   have := B8_get p i hi
   rw [← Array.getElem?_toList, List.getElem?_eq_getElem (by rw [hl]; omega)] at this
   rw [Option.some.inj this]
  show Tryz.prog.keyLits (d + 1) 5 (((B8 p).toList.drop (i * 1)).take 1) = _
  rw [e]
  exact lit8 d _)
 have e2 : ((List.range 32).map fun i => [Lit.int .u8 (p.getD i 0).toNat]).flatten = p.map fun b => Lit.int .u8 b.toNat := by
  obtain ⟨a0, a1, a2, a3, a4, a5, a6, a7, a8, a9, a10, a11, a12, a13, a14, a15, a16, a17, a18, a19, a20, a21, a22, a23, a24, a25, a26, a27, a28, a29, a30, a31, rfl⟩ := list32 p h
  rfl
 unfold Program.keyLits
 simp only [Tryz.underlying30, cells26, cells5, hl, if_true]
 rw [hm, Option.map_some, e2]
theorem lits_nm (d : Nat) (n : Nm) (h : n.1.length = 32) (ht : n.2.length ≤ maxLen) : Tryz.prog.keyLits (d + 3) 255 (nmC n).toList = some (litN n) := by
 have hl : (B8 n.1).toList.length = 32 := by rw [Array.length_toList, B8_size, h]
 have e : (nmC n).toList = (B8 n.1).toList ++ [.string (txt n.2)] := by simp [nmC]
 rw [e]
 unfold Program.keyLits
 simp only [Tryz.underlying255, cells68, List.length_append, hl, List.length_cons, List.length_nil]
 rw [if_pos ⟨trivial, by kernel_rfl⟩]
 simp only [List.mapM_cons, List.mapM_nil, cells26, cells9, List.drop_zero, List.take_left' hl, List.drop_left' hl]
 rw [litsH d n.1 h]
 simp [litT, ht, litN]
theorem lits_as (d : Nat) (a : As) (h : AsOk a) : Tryz.prog.keyLits (d + 3) 146 (asC a).toList = some (litA a) := by
 have hl : (B8 a.nm.1).toList.length = 32 := by rw [Array.length_toList, B8_size, h.1]
 have e : (asC a).toList = (B8 a.nm.1).toList ++ [.string (txt a.nm.2), .int .i64 a.amt] := by simp [asC]
 rw [e]
 unfold Program.keyLits
 simp only [Tryz.underlying146, cells54, List.length_append, hl, List.length_cons, List.length_nil]
 rw [if_pos ⟨trivial, by kernel_rfl⟩]
 have e33 : ((B8 a.nm.1).toList ++ [Value.string (txt a.nm.2), Value.int .i64 a.amt]).drop 33 = [Value.int .i64 a.amt] := by
  rw [show (33 : Nat) = 32 + 1 from rfl, ← List.drop_drop, List.drop_left' hl]
  rfl
 simp only [List.mapM_cons, List.mapM_nil, cells26, cells9, cells2, List.drop_zero, List.take_left' hl, List.drop_left' hl, e33]
 rw [litsH d a.nm.1 h.1]
 simp [litT, h.2.1, litI (d + 1) a.amt h.2.2.1 h.2.2.2, litA, litN]
theorem formed_as (a : As) (h : a.nm.1.length = 32) : (Value.agg (asC a)).formed Tryz.prog 146 = true := by
 obtain ⟨⟨p, t⟩, x⟩ := a
 obtain ⟨a0, a1, a2, a3, a4, a5, a6, a7, a8, a9, a10, a11, a12, a13, a14, a15, a16, a17, a18, a19, a20, a21, a22, a23, a24, a25, a26, a27, a28, a29, a30, a31, rfl⟩ := list32 p h
 kernel_rfl
theorem As.ext_iff' (a b : As) : a = b ↔ a.nm = b.nm ∧ a.amt = b.amt := by
 constructor
 ·
  rintro rfl; exact ⟨rfl, rfl⟩
 ·
  rintro ⟨h, k⟩; cases a; cases b; simp only at h k; rw [h, k]
instance : DecidableEq As := fun a b => decidable_of_iff _ (As.ext_iff' a b).symm
theorem eq_as (w : World) (a b : As) (ha : AsOk a) (hb : AsOk b) : (Op.equalIn 10000 146 (.agg (asC a)) (.agg (asC b))).run Tryz.prog w = .ok (decide (a = b)) w := by
 obtain ⟨r, hr, hi⟩ := run_equalIn_deep 9995 5 146 keyed_asset w 5 5 (.agg (asC a)) (.agg (asC b)) _ _ (formed_as a ha.1) (formed_as b hb.1) (lits_as 2 a ha) (lits_as 2 b hb)
 have e : r = decide (a = b) := by
  rw [Bool.eq_iff_iff, decide_eq_true_iff, hi]
  exact ⟨litA_inj ha.1 hb.1, fun e => by rw [e]⟩
 rw [← e]
 exact hr
end Go.Proofs.YtilbbemdinpjcaaGreat
