/-
  A total as it lies in memory; what it is called; which of two stands ahead; are two the same?
-/
import Derived.Test.YtjngghihciimjaaVp
namespace Go.Proofs.Ytjngghihciimjaa
set_option maxRecDepth 100000
open Go.RowKit Go.Sort

/-- A total: its name, how much. -/
structure To where
  nm : Nm
  w : BitVec 128
def toC (a : To) : Array Value := B8 a.nm.1 ++ #[.string (txt a.nm.2), .int .i64 (hiS a.w), .int .u64 (loN a.w)]
def ToOk (a : To) : Prop := a.nm.1.length = 32 ∧ a.nm.2.length ≤ maxLen
theorem toC_size (a : To) (h : a.nm.1.length = 32) : (toC a).size = 35 := by simp [toC, B8_size, h]
theorem toC_one (a : To) : (toC a).all (·.oneCell') = true := by
  unfold toC
  rw [Array.all_append, B8_one]
  simp [Value.oneCell']
theorem toC_get (a : To) (h : a.nm.1.length = 32) (j : Nat) (hj : j < 32) : (toC a)[j]? = some (.int .u8 (a.nm.1.getD j 0).toNat) := by
  unfold toC
  rw [Array.getElem?_append_left (by rw [B8_size]; omega)]
  exact B8_get _ _ (by omega)
theorem toC_txt (a : To) (h : a.nm.1.length = 32) : (toC a)[32]? = some (.string (txt a.nm.2)) := by
  unfold toC
  rw [Array.getElem?_append_right (by rw [B8_size]; omega), B8_size, h]
  rfl
theorem toC_hi (a : To) (h : a.nm.1.length = 32) : (toC a)[33]? = some (.int .i64 (hiS a.w)) := by
  unfold toC
  rw [Array.getElem?_append_right (by rw [B8_size]; omega), B8_size, h]
  rfl
theorem toC_lo (a : To) (h : a.nm.1.length = 32) : (toC a)[34]? = some (.int .u64 (loN a.w)) := by
  unfold toC
  rw [Array.getElem?_append_right (by rw [B8_size]; omega), B8_size, h]
  rfl
theorem info_total : (Try.prog.info? 48).map (·.size) = some 35 := by kernel_rfl
attribute [-go_sem] Instr.build
set_option maxHeartbeats 1000000 in
theorem callTotal_gro (w : World) (a : To) (ha : a.nm.1.length = 32) :
    Calls Try.prog 36 #[.agg (toC a)] w fun e w' => e = .returned (.agg (nmC a.nm)) ∧ Below w.heap.size w w' ∧ w.drawn ≤ w'.drawn := by
  obtain ⟨va, hva⟩ : ∃ v, v = toC a := ⟨_, rfl⟩
  obtain ⟨z, hz⟩ : ∃ z, z = z33 := ⟨_, rfl⟩
  rw [← hva]
  have HA := Lib.hid (And.intro hva (And.intro ha hz))
  clear hva ha
  go_enter Try.func36, Try.ntmps36
  go_upto_region 1 with fail
  rw [show (#[Value.int .u8 0, .int .u8 0, .int .u8 0, .int .u8 0, .int .u8 0, .int .u8 0, .int .u8 0, .int .u8 0, .int .u8 0, .int .u8 0, .int .u8 0, .int .u8 0, .int .u8 0, .int .u8 0, .int .u8 0, .int .u8 0, .int .u8 0, .int .u8 0, .int .u8 0, .int .u8 0, .int .u8 0, .int .u8 0, .int .u8 0, .int .u8 0, .int .u8 0, .int .u8 0, .int .u8 0, .int .u8 0, .int .u8 0, .int .u8 0, .int .u8 0, .int .u8 0, .string ⟨#[]⟩] : Array Value) = z from by rw [hz]; kernel_rfl]
  have hl1 : Lies ((w.alloc (.cells va 48)).alloc (.cells z 68)) w.heap.size va 48 := (Lies.new _ _ _).alloc _
  have hl2 : Lies ((w.alloc (.cells va 48)).alloc (.cells z 68)) (w.heap.size + 1) z 68 := by
    have := Lies.new (w.alloc (.cells va 48)) z 68
    simpa using this
  have hb0 : Below w.heap.size w ((w.alloc (.cells va 48)).alloc (.cells z 68)) := ((Below.refl _ _).alloc (Nat.le_refl _) _).alloc (by simp) _
  have HD0 : Hid (w.drawn ≤ ((w.alloc (.cells va 48)).alloc (.cells z 68)).drawn) := Lib.hid (Nat.le_refl _)
  generalize (w.alloc (.cells va 48)).alloc (.cells z 68) = W0 at hl1 hl2 hb0 HD0 ⊢
  rw [HA.out.1] at hl1
  have hp : Src W0 w.heap.size 0 a.nm.1 := fun j hj => by
    rw [Nat.zero_add]
    exact hl1.cell j (toC_get a HA.out.2.1 j (by rw [← HA.out.2.1]; exact hj))
  have c32 := hl1.cell 32 (toC_txt a HA.out.2.1)
  have HP := Lib.hid (And.intro (pol_range hp) (And.intro hl2 hb0))
  have hnm : nmC a.nm = B8 a.nm.1 ++ #[.string (txt a.nm.2)] := rfl
  have hsz : (B8 a.nm.1).size = 32 := by rw [B8_size]; exact HA.out.2.1
  have HN := Lib.hid (And.intro hnm (And.intro hsz (nmC_size a.nm HA.out.2.1)))
  obtain ⟨pv, hpv⟩ : ∃ v, v = B8 a.nm.1 := ⟨_, rfl⟩
  obtain ⟨tv, htv⟩ : ∃ v, v = txt a.nm.2 := ⟨_, rfl⟩
  obtain ⟨nv, hnv⟩ : ∃ v, v = nmC a.nm := ⟨_, rfl⟩
  have hbl : ∀ W, (Instr.build 68 #[(0, .agg pv), (1, .string tv)]).run Try.prog W = .ok (.agg nv) W := fun W => by
    rw [hpv, htv, hnv]
    exact run_build W 68 _ _ (built_called a.nm.1 HA.out.2.1 (txt a.nm.2))
  rw [← hpv] at HP HN
  rw [← htv] at c32
  rw [← hnv] at HN
  have HV := Lib.hid (And.intro hpv hnv)
  clear hl1 hl2 hb0 hp hz hnm hsz hpv htv hnv
  go_wp2_with (first
    | (refine wpList_load_mid rfl 26 _ rfl w.heap.size 0 rfl pv.toList _ HP.out.1 Try.underlying26 rfl (by rw [Array.length_toList, HN.out.2.1]; exact info_hash) ?_)
    | (refine wpList_store_row rfl 68 _ _ rfl (w.heap.size + 1) nv rfl rfl 68 z HP.out.2.1 (by rw [HN.out.2.2]; exact info_called) (by rw [HN.out.2.2, HA.out.2.2]; rfl) (by rw [HV.out.2]; exact nmC_one _) ?_))
  refine bodyPost_ret (v := .agg nv) (results_cell_row (p := 2) (ty := 68) (by kernel_rfl) _ _ (w.heap.size + 1) 68 nv (0, 0) _ rfl (HP.out.2.1.setRow _) Try.underlying68 rfl (by rw [HN.out.2.2]; exact info_called)) rfl ⟨by rw [HV.out.2], below_setRow HP.out.2.2 _ _ (by omega), HD0.out⟩
theorem callTotal_any (w : World) (a : To) (ha : a.nm.1.length = 32) :
    Calls Try.prog 36 #[.agg (toC a)] w fun e w' => e = .returned (.agg (nmC a.nm)) ∧ Below w.heap.size w w' :=
  (callTotal_gro w a ha).mono fun _ _ h => ⟨h.1, h.2.1⟩

theorem ret_gro {P : Program} {f : FuncId} {args : Array Value} {w : World} {v : Value} {R : World → Prop} (h : Calls P f args w fun e w' => e = .returned v ∧ R w') : Calls P f args w fun e w' => ∃ u, e = .returned u ∧ (u = v ∧ R w') :=
  h.mono fun _ _ h => ⟨v, h.1, rfl, h.2⟩
set_option maxHeartbeats 2000000 in
/-- Which of two totals stands ahead. -/
theorem cmpTotal_gro (w : World) (a b : To) (ha : a.nm.1.length = 32) (hb : b.nm.1.length = 32) :
    Calls Try.prog 47 #[.agg (toC a), .agg (toC b)] w fun e w' => e = .returned (.int .i64 (cN a.nm b.nm)) ∧ Below w.heap.size w w' ∧ w.drawn ≤ w'.drawn := by
  obtain ⟨va, hva⟩ : ∃ v, v = toC a := ⟨_, rfl⟩
  obtain ⟨vb, hvb⟩ : ∃ v, v = toC b := ⟨_, rfl⟩
  obtain ⟨na, hna⟩ : ∃ v, v = nmC a.nm := ⟨_, rfl⟩
  obtain ⟨nb, hnb⟩ : ∃ v, v = nmC b.nm := ⟨_, rfl⟩
  obtain ⟨z, hz⟩ : ∃ z, z = cN a.nm b.nm := ⟨_, rfl⟩
  have hca : ∀ W, Calls Try.prog 36 #[.agg va] W fun e w' => e = .returned (.agg na) ∧ Below W.heap.size W w' ∧ W.drawn ≤ w'.drawn := fun W => by
    rw [hva, hna]; exact callTotal_gro W a ha
  have hcb : ∀ W, Calls Try.prog 36 #[.agg vb] W fun e w' => e = .returned (.agg nb) ∧ Below W.heap.size W w' ∧ W.drawn ≤ w'.drawn := fun W => by
    rw [hvb, hnb]; exact callTotal_gro W b hb
  have hord : ∀ W, Calls Try.prog 43 #[.agg na, .agg nb] W fun e w' => e = .returned (.int .i64 z) ∧ Below W.heap.size W w' ∧ W.drawn ≤ w'.drawn := fun W => by
    rw [hna, hnb, hz]; exact order_gro W a.nm b.nm ha hb
  have hia : (Try.prog.info? 48).map (·.size) = some va.size := by rw [hva, toC_size a ha]; exact info_total
  have hib : (Try.prog.info? 48).map (·.size) = some vb.size := by rw [hvb, toC_size b hb]; exact info_total
  rw [← hva, ← hvb, ← hz]
  have H := Lib.hid (And.intro hca (And.intro hcb (And.intro hord (And.intro hia hib))))
  clear hva hvb hna hnb hz hca hcb hord hia hib ha hb
  go_enter Try.func47, Try.ntmps47
  go_upto_region 1 with fail
  have hl1 : Lies ((w.alloc (.cells va 48)).alloc (.cells vb 48)) w.heap.size va 48 := (Lies.new _ _ _).alloc _
  have hl2 : Lies ((w.alloc (.cells va 48)).alloc (.cells vb 48)) (w.heap.size + 1) vb 48 := by
    have := Lies.new (w.alloc (.cells va 48)) vb 48
    simpa using this
  have hb0 : Below w.heap.size w ((w.alloc (.cells va 48)).alloc (.cells vb 48)) := ((Below.refl _ _).alloc (Nat.le_refl _) _).alloc (by simp) _
  have HD0 : Hid (w.drawn ≤ ((w.alloc (.cells va 48)).alloc (.cells vb 48)).drawn) := Lib.hid (Nat.le_refl _)
  generalize (w.alloc (.cells va 48)).alloc (.cells vb 48) = W0 at hl1 hl2 hb0 HD0 ⊢
  have HS : Hid (∀ V, Below W0.heap.size W0 V → Lies V w.heap.size va 48 ∧ Lies V (w.heap.size + 1) vb 48) := Lib.hid fun V hV => ⟨hl1.below hV hl1.lt, hl2.below hV hl2.lt⟩
  have H0 := Lib.hid hb0
  clear hl1 hl2 hb0
  refine wp_region_noPanic (wp_region_held (S := fun V => Lies V w.heap.size va 48 ∧ Lies V (w.heap.size + 1) vb 48) (by kernel_rfl) ?_)
  change wpAnyH _ _ _ _ _ 6 _ _ (World.drew W0)
  have hbd : Below W0.heap.size W0 W0.drew := (Below.refl _ _).drew
  have hcur := HS.out _ hbd
  refine held_take (i := 0) (v := (.agg va)) rfl 5 rfl (by kernel_rfl) (by kernel_rfl) (by kernel_rfl) (fun _ _ _ h => h) (by rfl) (by intro w' hS'; exact exec_loadM 48 _ rfl _ _ rfl va (range_lies hS'.1) Try.underlying48 rfl H.out.2.2.2.1) hcur _ rfl ?_
  simp only [Act.put, List.setIfInBounds_toArray, List.set_cons_zero, List.set_cons_succ]
  refine held_take (i := 2) (v := (.agg vb)) rfl 7 rfl (by kernel_rfl) (by kernel_rfl) (by kernel_rfl) (fun _ _ _ h => h) (by rfl) (by intro w' hS'; exact exec_loadM 48 _ rfl _ _ rfl vb (range_lies hS'.2) Try.underlying48 rfl H.out.2.2.2.2) hcur _ rfl ?_
  simp only [Act.put, List.setIfInBounds_toArray, List.set_cons_zero, List.set_cons_succ]
  refine held_one (i := 1) (by kernel_rfl) _ rfl (wpOp_callG rfl (by rfl) 6 rfl 36 #[.agg va] (by unfold execOp; simp [go_sem]) _ (ret_gro (H.out.1 _)) ?_)
  rintro v1 w1 ⟨rfl, hb1, hd1⟩
  have hc1 := hbd.trans (hb1.mono hbd.size)
  have hcur := HS.out _ hc1
  refine ⟨hcur, ?_⟩
  simp only [Act.put, List.setIfInBounds_toArray, List.set_cons_zero, List.set_cons_succ]
  refine held_one (i := 3) (by kernel_rfl) _ rfl (wpOp_callG rfl (by rfl) 8 rfl 36 #[.agg vb] (by unfold execOp; simp [go_sem]) _ (ret_gro (H.out.2.1 _)) ?_)
  rintro v2 w2 ⟨rfl, hb2, hd2⟩
  have hc2 := hc1.trans (hb2.mono hc1.size)
  have hcur := HS.out _ hc2
  refine ⟨hcur, ?_⟩
  simp only [Act.put, List.setIfInBounds_toArray, List.set_cons_zero, List.set_cons_succ]
  refine held_one (i := 4) (by kernel_rfl) _ rfl (wpOp_callG rfl (by rfl) 9 rfl 43 #[.agg na, .agg nb] (by unfold execOp; simp [go_sem]) _ (ret_gro (H.out.2.2.1 _)) ?_)
  rintro v3 w3 ⟨rfl, hb3, hd3⟩
  have hc3 := hc2.trans (hb3.mono hc2.size)
  have hcur := HS.out _ hc3
  refine ⟨hcur, ?_⟩
  simp only [Act.put, List.setIfInBounds_toArray, List.set_cons_zero, List.set_cons_succ]
  refine held_take (i := 5) (v := (.int .i64 z)) rfl 4 rfl (by kernel_rfl) (by kernel_rfl) (by kernel_rfl) (fun _ _ _ h => h) (by rfl) (by intro w' hS'; unfold execOp; simp [go_sem]) hcur _ rfl ?_
  simp only [Act.put, List.setIfInBounds_toArray, List.set_cons_zero, List.set_cons_succ]
  refine wpAnyH_done (by kernel_rfl) ?_ _
  unfold NoPanic
  dsimp only
  have HB := Lib.hid (And.intro (H0.out.trans (hc3.mono H0.out.size)) (Nat.le_trans HD0.out (Nat.le_trans (Nat.le_succ _) (Nat.le_trans hd1 (Nat.le_trans hd2 hd3)))))
  clear hcur hbd hb1 hb2 hb3 hc1 hc2 hc3 hd1 hd2 hd3
  go_wp2_with fail
  go_ret
  exact ⟨rfl, HB.out⟩
theorem cmpTotal_any (w : World) (a b : To) (ha : a.nm.1.length = 32) (hb : b.nm.1.length = 32) :
    Calls Try.prog 47 #[.agg (toC a), .agg (toC b)] w fun e w' => e = .returned (.int .i64 (cN a.nm b.nm)) ∧ Below w.heap.size w w' :=
  (cmpTotal_gro w a b ha hb).mono fun _ _ h => ⟨h.1, h.2.1⟩
theorem cells48 : Try.prog.cellsOf 48 = 35 := by kernel_rfl
theorem cells39 : Try.prog.cellsOf 39 = 2 := by kernel_rfl
theorem cells37 : Try.prog.cellsOf 37 = 1 := by kernel_rfl
theorem keyed_total : Try.prog.keyTypeAt 5 48 = true := by kernel_rfl
theorem keyed_wide : Try.prog.keyTypeAt 5 39 = true := by kernel_rfl
def litW (x : BitVec 128) : List Lit := [.int .i64 (hiS x), .int .u64 (loN x)]
theorem litW_inj {x y : BitVec 128} (h : litW x = litW y) : x = y := by
  unfold litW at h
  simp only [List.cons.injEq, Lit.int.injEq, true_and, and_true] at h
  exact w_inj h.1 (by omega)
theorem lits_w (d : Nat) (x : BitVec 128) : Try.prog.keyLits (d + 2) 39 (wC x).toList = some (litW x) := by
  have h1 : (Lit.int .i64 (hiS x)).wf = true := by
    have := hiS_lo x
    show (decide ((-9223372036854775808 : Int) ≤ hiS x) && decide (hiS x ≤ 9223372036854775807)) = true
    rw [Bool.and_eq_true_iff, decide_eq_true_iff, decide_eq_true_iff]
    omega
  have h2 : (Lit.int .u64 (loN x : Int)).wf = true := by
    have := loN_lt x
    show (decide ((0 : Int) ≤ (loN x : Int)) && decide ((loN x : Int) ≤ 18446744073709551615)) = true
    rw [Bool.and_eq_true_iff, decide_eq_true_iff, decide_eq_true_iff]
    omega
  unfold Program.keyLits
  simp only [Try.underlying39, cells39, wC, List.length_cons, List.length_nil]
  rw [if_pos ⟨trivial, by kernel_rfl⟩]
  simp [Program.keyLits, Try.underlying2, Try.underlying37, cells2, cells37, h1, h2, litW]
end Go.Proofs.Ytjngghihciimjaa
