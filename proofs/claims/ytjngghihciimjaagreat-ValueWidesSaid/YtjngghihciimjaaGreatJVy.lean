/-
  A total as it lies in memory; what it is called; which of two stands ahead; are two the same?
  Are two rows of totals the same?
  How much work is it? Some number comes back, and nothing old turns.
  Bundles that are not right are refused, with a panic of the code's number.
  A map of sums by name: what it holds, what a store leaves.
  A sum is put to a name's.
-/
import Derived.Test.YtjngghihciimjaaGreatJVp
import Derived.DeepKeys4
import Derived.Maps.OwnSet
import Derived.Maps.Views
namespace Go.Proofs.YtjngghihciimjaaGreat
set_option maxRecDepth 100000
open Go.RowKit Go.Sort

/-- A total: its name, how much. -/
structure To where
  nm : Nm
  w : BitVec 128
def toC (a : To) : Array Value := B8 a.nm.1 ++ #[.string (txt a.nm.2), .int .i64 (hiS a.w), .int .u64 (loN a.w)]
def ToOk (a : To) : Prop := a.nm.1.length = 32 ∧ a.nm.2.length ≤ maxLen
theorem toC_size (a : To) (h : a.nm.1.length = 32) : (toC a).size = 35 := by simp [toC, B8_size, h]
theorem toC_one (a : To) : (toC a).all (·.oneCell') = true := by
  unfold toC
  rw [Array.all_append, B8_one]
  simp [Value.oneCell']
theorem toC_get (a : To) (h : a.nm.1.length = 32) (j : Nat) (hj : j < 32) : (toC a)[j]? = some (.int .u8 (a.nm.1.getD j 0).toNat) := by
  unfold toC
  rw [Array.getElem?_append_left (by rw [B8_size]; omega)]
  exact B8_get _ _ (by omega)
theorem toC_txt (a : To) (h : a.nm.1.length = 32) : (toC a)[32]? = some (.string (txt a.nm.2)) := by
  unfold toC
  rw [Array.getElem?_append_right (by rw [B8_size]; omega), B8_size, h]
  rfl
theorem toC_hi (a : To) (h : a.nm.1.length = 32) : (toC a)[33]? = some (.int .i64 (hiS a.w)) := by
  unfold toC
  rw [Array.getElem?_append_right (by rw [B8_size]; omega), B8_size, h]
  rfl
theorem toC_lo (a : To) (h : a.nm.1.length = 32) : (toC a)[34]? = some (.int .u64 (loN a.w)) := by
  unfold toC
  rw [Array.getElem?_append_right (by rw [B8_size]; omega), B8_size, h]
  rfl
theorem info_total : (Tryz.prog.info? 75).map (·.size) = some 35 := by kernel_rfl
attribute [-go_sem] Instr.build
set_option maxHeartbeats 1000000 in
theorem callTotal_gro (w : World) (a : To) (ha : a.nm.1.length = 32) :
    Calls Tryz.prog 75 #[.agg (toC a)] w fun e w' => e = .returned (.agg (nmC a.nm)) ∧ Below w.heap.size w w' ∧ w.drawn ≤ w'.drawn := by
  obtain ⟨va, hva⟩ : ∃ v, v = toC a := ⟨_, rfl⟩
  obtain ⟨z, hz⟩ : ∃ z, z = z33 := ⟨_, rfl⟩
  rw [← hva]
  have HA := Lib.hid (And.intro hva (And.intro ha hz))
  clear hva ha
  go_enter Tryz.func75, Tryz.ntmps75
  go_upto_region 1 with fail
  rw [show (#[Value.int .u8 0, .int .u8 0, .int .u8 0, .int .u8 0, .int .u8 0, .int .u8 0, .int .u8 0, .int .u8 0, .int .u8 0, .int .u8 0, .int .u8 0, .int .u8 0, .int .u8 0, .int .u8 0, .int .u8 0, .int .u8 0, .int .u8 0, .int .u8 0, .int .u8 0, .int .u8 0, .int .u8 0, .int .u8 0, .int .u8 0, .int .u8 0, .int .u8 0, .int .u8 0, .int .u8 0, .int .u8 0, .int .u8 0, .int .u8 0, .int .u8 0, .int .u8 0, .string ⟨#[]⟩] : Array Value) = z from by rw [hz]; kernel_rfl]
  have hl1 : Lies ((w.alloc (.cells va 75)).alloc (.cells z 86)) w.heap.size va 75 := (Lies.new _ _ _).alloc _
  have hl2 : Lies ((w.alloc (.cells va 75)).alloc (.cells z 86)) (w.heap.size + 1) z 86 := by
    have := Lies.new (w.alloc (.cells va 75)) z 86
    simpa using this
  have hb0 : Below w.heap.size w ((w.alloc (.cells va 75)).alloc (.cells z 86)) := ((Below.refl _ _).alloc (Nat.le_refl _) _).alloc (by simp) _
  have HD0 : Hid (w.drawn ≤ ((w.alloc (.cells va 75)).alloc (.cells z 86)).drawn) := Lib.hid (Nat.le_refl _)
  generalize (w.alloc (.cells va 75)).alloc (.cells z 86) = W0 at hl1 hl2 hb0 HD0 ⊢
  rw [HA.out.1] at hl1
  have hp : Src W0 w.heap.size 0 a.nm.1 := fun j hj => by
    rw [Nat.zero_add]
    exact hl1.cell j (toC_get a HA.out.2.1 j (by rw [← HA.out.2.1]; exact hj))
  have c32 := hl1.cell 32 (toC_txt a HA.out.2.1)
  have HP := Lib.hid (And.intro (pol_range hp) (And.intro hl2 hb0))
  have hnm : nmC a.nm = B8 a.nm.1 ++ #[.string (txt a.nm.2)] := rfl
  have hsz : (B8 a.nm.1).size = 32 := by rw [B8_size]; exact HA.out.2.1
  have HN := Lib.hid (And.intro hnm (And.intro hsz (nmC_size a.nm HA.out.2.1)))
  obtain ⟨pv, hpv⟩ : ∃ v, v = B8 a.nm.1 := ⟨_, rfl⟩
  obtain ⟨tv, htv⟩ : ∃ v, v = txt a.nm.2 := ⟨_, rfl⟩
  obtain ⟨nv, hnv⟩ : ∃ v, v = nmC a.nm := ⟨_, rfl⟩
  have hbl : ∀ W, (Instr.build 86 #[(0, .agg pv), (1, .string tv)]).run Tryz.prog W = .ok (.agg nv) W := fun W => by
    rw [hpv, htv, hnv]
    exact run_build W 86 _ _ (built_called a.nm.1 HA.out.2.1 (txt a.nm.2))
  rw [← hpv] at HP HN
  rw [← htv] at c32
  rw [← hnv] at HN
  have HV := Lib.hid (And.intro hpv hnv)
  clear hl1 hl2 hb0 hp hz hnm hsz hpv htv hnv
  go_wp2_with (first
    | (refine wpList_load_mid rfl 26 _ rfl w.heap.size 0 rfl pv.toList _ HP.out.1 Tryz.underlying26 rfl (by rw [Array.length_toList, HN.out.2.1]; exact info_hash) ?_)
    | (refine wpList_store_row rfl 86 _ _ rfl (w.heap.size + 1) nv rfl rfl 86 z HP.out.2.1 (by rw [HN.out.2.2]; exact info_called) (by rw [HN.out.2.2, HA.out.2.2]; rfl) (by rw [HV.out.2]; exact nmC_one _) ?_))
  refine bodyPost_ret (v := .agg nv) (results_cell_row (p := 2) (ty := 86) (by kernel_rfl) _ _ (w.heap.size + 1) 86 nv (0, 0) _ rfl (HP.out.2.1.setRow _) Tryz.underlying86 rfl (by rw [HN.out.2.2]; exact info_called)) rfl ⟨by rw [HV.out.2], below_setRow HP.out.2.2 _ _ (by omega), HD0.out⟩
theorem callTotal_any (w : World) (a : To) (ha : a.nm.1.length = 32) :
    Calls Tryz.prog 75 #[.agg (toC a)] w fun e w' => e = .returned (.agg (nmC a.nm)) ∧ Below w.heap.size w w' :=
  (callTotal_gro w a ha).mono fun _ _ h => ⟨h.1, h.2.1⟩

theorem ret_gro {P : Program} {f : FuncId} {args : Array Value} {w : World} {v : Value} {R : World → Prop} (h : Calls P f args w fun e w' => e = .returned v ∧ R w') : Calls P f args w fun e w' => ∃ u, e = .returned u ∧ (u = v ∧ R w') :=
  h.mono fun _ _ h => ⟨v, h.1, rfl, h.2⟩
set_option maxHeartbeats 2000000 in
/-- Which of two totals stands ahead. -/
theorem cmpTotal_gro (w : World) (a b : To) (ha : a.nm.1.length = 32) (hb : b.nm.1.length = 32) :
    Calls Tryz.prog 124 #[.agg (toC a), .agg (toC b)] w fun e w' => e = .returned (.int .i64 (cN a.nm b.nm)) ∧ Below w.heap.size w w' ∧ w.drawn ≤ w'.drawn := by
  obtain ⟨va, hva⟩ : ∃ v, v = toC a := ⟨_, rfl⟩
  obtain ⟨vb, hvb⟩ : ∃ v, v = toC b := ⟨_, rfl⟩
  obtain ⟨na, hna⟩ : ∃ v, v = nmC a.nm := ⟨_, rfl⟩
  obtain ⟨nb, hnb⟩ : ∃ v, v = nmC b.nm := ⟨_, rfl⟩
  obtain ⟨z, hz⟩ : ∃ z, z = cN a.nm b.nm := ⟨_, rfl⟩
  have hca : ∀ W, Calls Tryz.prog 75 #[.agg va] W fun e w' => e = .returned (.agg na) ∧ Below W.heap.size W w' ∧ W.drawn ≤ w'.drawn := fun W => by
    rw [hva, hna]; exact callTotal_gro W a ha
  have hcb : ∀ W, Calls Tryz.prog 75 #[.agg vb] W fun e w' => e = .returned (.agg nb) ∧ Below W.heap.size W w' ∧ W.drawn ≤ w'.drawn := fun W => by
    rw [hvb, hnb]; exact callTotal_gro W b hb
  have hord : ∀ W, Calls Tryz.prog 89 #[.agg na, .agg nb] W fun e w' => e = .returned (.int .i64 z) ∧ Below W.heap.size W w' ∧ W.drawn ≤ w'.drawn := fun W => by
    rw [hna, hnb, hz]; exact order_gro W a.nm b.nm ha hb
  have hia : (Tryz.prog.info? 75).map (·.size) = some va.size := by rw [hva, toC_size a ha]; exact info_total
  have hib : (Tryz.prog.info? 75).map (·.size) = some vb.size := by rw [hvb, toC_size b hb]; exact info_total
  rw [← hva, ← hvb, ← hz]
  have H := Lib.hid (And.intro hca (And.intro hcb (And.intro hord (And.intro hia hib))))
  clear hva hvb hna hnb hz hca hcb hord hia hib ha hb
  go_enter Tryz.func124, Tryz.ntmps124
  go_upto_region 1 with fail
  have hl1 : Lies ((w.alloc (.cells va 75)).alloc (.cells vb 75)) w.heap.size va 75 := (Lies.new _ _ _).alloc _
  have hl2 : Lies ((w.alloc (.cells va 75)).alloc (.cells vb 75)) (w.heap.size + 1) vb 75 := by
    have := Lies.new (w.alloc (.cells va 75)) vb 75
    simpa using this
  have hb0 : Below w.heap.size w ((w.alloc (.cells va 75)).alloc (.cells vb 75)) := ((Below.refl _ _).alloc (Nat.le_refl _) _).alloc (by simp) _
  have HD0 : Hid (w.drawn ≤ ((w.alloc (.cells va 75)).alloc (.cells vb 75)).drawn) := Lib.hid (Nat.le_refl _)
  generalize (w.alloc (.cells va 75)).alloc (.cells vb 75) = W0 at hl1 hl2 hb0 HD0 ⊢
  have HS : Hid (∀ V, Below W0.heap.size W0 V → Lies V w.heap.size va 75 ∧ Lies V (w.heap.size + 1) vb 75) := Lib.hid fun V hV => ⟨hl1.below hV hl1.lt, hl2.below hV hl2.lt⟩
  have H0 := Lib.hid hb0
  clear hl1 hl2 hb0
  refine wp_region_noPanic (wp_region_held (S := fun V => Lies V w.heap.size va 75 ∧ Lies V (w.heap.size + 1) vb 75) (by kernel_rfl) ?_)
  change wpAnyH _ _ _ _ _ 6 _ _ (World.drew W0)
  have hbd : Below W0.heap.size W0 W0.drew := (Below.refl _ _).drew
  have hcur := HS.out _ hbd
  refine held_take (i := 0) (v := (.agg va)) rfl 5 rfl (by kernel_rfl) (by kernel_rfl) (by kernel_rfl) (fun _ _ _ h => h) (by rfl) (by intro w' hS'; exact exec_loadM 75 _ rfl _ _ rfl va (range_lies hS'.1) Tryz.underlying75 rfl H.out.2.2.2.1) hcur _ rfl ?_
  simp only [Act.put, List.setIfInBounds_toArray, List.set_cons_zero, List.set_cons_succ]
  refine held_take (i := 2) (v := (.agg vb)) rfl 7 rfl (by kernel_rfl) (by kernel_rfl) (by kernel_rfl) (fun _ _ _ h => h) (by rfl) (by intro w' hS'; exact exec_loadM 75 _ rfl _ _ rfl vb (range_lies hS'.2) Tryz.underlying75 rfl H.out.2.2.2.2) hcur _ rfl ?_
  simp only [Act.put, List.setIfInBounds_toArray, List.set_cons_zero, List.set_cons_succ]
  refine held_one (i := 1) (by kernel_rfl) _ rfl (wpOp_callG rfl (by rfl) 6 rfl 75 #[.agg va] (by unfold execOp; simp [go_sem]) _ (ret_gro (H.out.1 _)) ?_)
  rintro v1 w1 ⟨rfl, hb1, hd1⟩
  have hc1 := hbd.trans (hb1.mono hbd.size)
  have hcur := HS.out _ hc1
  refine ⟨hcur, ?_⟩
  simp only [Act.put, List.setIfInBounds_toArray, List.set_cons_zero, List.set_cons_succ]
  refine held_one (i := 3) (by kernel_rfl) _ rfl (wpOp_callG rfl (by rfl) 8 rfl 75 #[.agg vb] (by unfold execOp; simp [go_sem]) _ (ret_gro (H.out.2.1 _)) ?_)
  rintro v2 w2 ⟨rfl, hb2, hd2⟩
  have hc2 := hc1.trans (hb2.mono hc1.size)
  have hcur := HS.out _ hc2
  refine ⟨hcur, ?_⟩
  simp only [Act.put, List.setIfInBounds_toArray, List.set_cons_zero, List.set_cons_succ]
  refine held_one (i := 4) (by kernel_rfl) _ rfl (wpOp_callG rfl (by rfl) 9 rfl 89 #[.agg na, .agg nb] (by unfold execOp; simp [go_sem]) _ (ret_gro (H.out.2.2.1 _)) ?_)
  rintro v3 w3 ⟨rfl, hb3, hd3⟩
  have hc3 := hc2.trans (hb3.mono hc2.size)
  have hcur := HS.out _ hc3
  refine ⟨hcur, ?_⟩
  simp only [Act.put, List.setIfInBounds_toArray, List.set_cons_zero, List.set_cons_succ]
  refine held_take (i := 5) (v := (.int .i64 z)) rfl 4 rfl (by kernel_rfl) (by kernel_rfl) (by kernel_rfl) (fun _ _ _ h => h) (by rfl) (by intro w' hS'; unfold execOp; simp [go_sem]) hcur _ rfl ?_
  simp only [Act.put, List.setIfInBounds_toArray, List.set_cons_zero, List.set_cons_succ]
  refine wpAnyH_done (by kernel_rfl) ?_ _
  unfold NoPanic
  dsimp only
  have HB := Lib.hid (And.intro (H0.out.trans (hc3.mono H0.out.size)) (Nat.le_trans HD0.out (Nat.le_trans (Nat.le_succ _) (Nat.le_trans hd1 (Nat.le_trans hd2 hd3)))))
  clear hcur hbd hb1 hb2 hb3 hc1 hc2 hc3 hd1 hd2 hd3
  go_wp2_with fail
  go_ret
  exact ⟨rfl, HB.out⟩
theorem cmpTotal_any (w : World) (a b : To) (ha : a.nm.1.length = 32) (hb : b.nm.1.length = 32) :
    Calls Tryz.prog 124 #[.agg (toC a), .agg (toC b)] w fun e w' => e = .returned (.int .i64 (cN a.nm b.nm)) ∧ Below w.heap.size w w' :=
  (cmpTotal_gro w a b ha hb).mono fun _ _ h => ⟨h.1, h.2.1⟩
theorem cells48 : Tryz.prog.cellsOf 75 = 35 := by kernel_rfl
theorem cells39 : Tryz.prog.cellsOf 48 = 2 := by kernel_rfl
theorem cells37 : Tryz.prog.cellsOf 46 = 1 := by kernel_rfl
theorem keyed_total : Tryz.prog.keyTypeAt 5 75 = true := by kernel_rfl
theorem keyed_wide : Tryz.prog.keyTypeAt 5 48 = true := by kernel_rfl
def litW (x : BitVec 128) : List Lit := [.int .i64 (hiS x), .int .u64 (loN x)]
theorem litW_inj {x y : BitVec 128} (h : litW x = litW y) : x = y := by
  unfold litW at h
  simp only [List.cons.injEq, Lit.int.injEq, true_and, and_true] at h
  exact w_inj h.1 (by omega)
theorem lits_w (d : Nat) (x : BitVec 128) : Tryz.prog.keyLits (d + 2) 48 (wC x).toList = some (litW x) := by
  have h1 : (Lit.int .i64 (hiS x)).wf = true := by
    have := hiS_lo x
    show (decide ((-9223372036854775808 : Int) ≤ hiS x) && decide (hiS x ≤ 9223372036854775807)) = true
    rw [Bool.and_eq_true_iff, decide_eq_true_iff, decide_eq_true_iff]
    omega
  have h2 : (Lit.int .u64 (loN x : Int)).wf = true := by
    have := loN_lt x
    show (decide ((0 : Int) ≤ (loN x : Int)) && decide ((loN x : Int) ≤ 18446744073709551615)) = true
    rw [Bool.and_eq_true_iff, decide_eq_true_iff, decide_eq_true_iff]
    omega
  unfold Program.keyLits
  simp only [Tryz.underlying48, cells39, wC, List.length_cons, List.length_nil]
  rw [if_pos ⟨trivial, by kernel_rfl⟩]
  simp [Program.keyLits, Tryz.underlying2, Tryz.underlying46, cells2, cells37, h1, h2, litW]
end Go.Proofs.YtjngghihciimjaaGreat
namespace Go.Proofs.YtjngghihciimjaaGreat
set_option maxRecDepth 100000
open Go.RowKit Go.Sort

theorem To.ext_iff' (a b : To) : a = b ↔ a.nm = b.nm ∧ a.w = b.w := by
  constructor
  · rintro rfl; exact ⟨rfl, rfl⟩
  · rintro ⟨h, k⟩; cases a; cases b; simp only at h k; rw [h, k]
instance : DecidableEq To := fun a b => decidable_of_iff _ (To.ext_iff' a b).symm
def litT' (a : To) : List Lit := litN a.nm ++ litW a.w
theorem litT_inj {a b : To} (ha : a.nm.1.length = 32) (hb : b.nm.1.length = 32) (h : litT' a = litT' b) : a = b := by
  unfold litT' at h
  have := List.append_inj h (by simp [litN, ha, hb])
  exact (To.ext_iff' a b).2 ⟨litN_inj ha hb this.1, litW_inj this.2⟩
theorem lits_to (d : Nat) (a : To) (h : ToOk a) : Tryz.prog.keyLits (d + 3) 75 (toC a).toList = some (litT' a) := by
  have hl : (B8 a.nm.1).toList.length = 32 := by rw [Array.length_toList, B8_size, h.1]
  have e : (toC a).toList = (B8 a.nm.1).toList ++ [.string (txt a.nm.2), .int .i64 (hiS a.w), .int .u64 (loN a.w)] := by simp [toC]
  rw [e]
  unfold Program.keyLits
  simp only [Tryz.underlying75, cells48, List.length_append, hl, List.length_cons, List.length_nil]
  rw [if_pos ⟨trivial, by kernel_rfl⟩]
  have e33 : ((B8 a.nm.1).toList ++ [Value.string (txt a.nm.2), Value.int .i64 (hiS a.w), Value.int .u64 (loN a.w)]).drop 33 = (wC a.w).toList := by
    rw [show (33 : Nat) = 32 + 1 from rfl, ← List.drop_drop, List.drop_left' hl]
    rfl
  have e2 : (wC a.w).toList.take 2 = (wC a.w).toList := rfl
  simp only [List.mapM_cons, List.mapM_nil, cells26, cells9, cells39, List.drop_zero, List.take_left' hl, List.drop_left' hl, e33, e2]
  rw [litsH d a.nm.1 h.1, lits_w d a.w]
  simp [litT, h.2, litT', litN, litW]
theorem formed_to (a : To) (h : a.nm.1.length = 32) : (Value.agg (toC a)).formed Tryz.prog 75 = true := by
  obtain ⟨⟨p, t⟩, x⟩ := a
  obtain ⟨a0, a1, a2, a3, a4, a5, a6, a7, a8, a9, a10, a11, a12, a13, a14, a15, a16, a17, a18, a19, a20, a21, a22, a23, a24, a25, a26, a27, a28, a29, a30, a31, rfl⟩ := list32 p h
  kernel_rfl
theorem eq_to (w : World) (a b : To) (ha : ToOk a) (hb : ToOk b) : (Op.equalIn 10000 75 (.agg (toC a)) (.agg (toC b))).run Tryz.prog w = .ok (decide (a = b)) w := by
  obtain ⟨r, hr, hi⟩ := run_equalIn_deep 9995 5 75 keyed_total w 5 5 (.agg (toC a)) (.agg (toC b)) _ _ (formed_to a ha.1) (formed_to b hb.1) (lits_to 2 a ha) (lits_to 2 b hb)
  have e : r = decide (a = b) := by
    rw [Bool.eq_iff_iff, decide_eq_true_iff, hi]
    exact ⟨litT_inj ha.1 hb.1, fun e => by rw [e]⟩
  rw [← e]
  exact hr
theorem eq_w (w : World) (a b : BitVec 128) : (Op.equalIn 10000 48 (.agg (wC a)) (.agg (wC b))).run Tryz.prog w = .ok (decide (a = b)) w := by
  have hf : ∀ x, (Value.agg (wC x)).formed Tryz.prog 48 = true := fun x => by kernel_rfl
  obtain ⟨r, hr, hi⟩ := run_equalIn_deep 9995 5 48 keyed_wide w 5 5 (.agg (wC a)) (.agg (wC b)) _ _ (hf a) (hf b) (lits_w 3 a) (lits_w 3 b)
  have e : r = decide (a = b) := by
    rw [Bool.eq_iff_iff, decide_eq_true_iff, hi]
    exact ⟨litW_inj, fun e => by rw [e]⟩
  rw [← e]
  exact hr
/-- Totals lie one behind the other. -/
def HasT (w : World) (g off : Nat) (l : List To) : Prop := ∀ (i : Nat) (a : To), l[i]? = some a → w.rangeAt g (off + i * 35) (toC a).toList
theorem HasT.below {B : Nat} {w w' : World} {g off : Nat} {l : List To} (h : HasT w g off l) (hb : Below B w w') (hg : g < B) : HasT w' g off l :=
  fun i a hi j v hv => (hb.cell (p := ⟨g, off + i * 35 + j, none⟩) hg).trans (h i a hi j v hv)
def RowT (w : World) (pa : Option Addr) (l : List To) : Prop := l.length ≤ maxLen ∧ (∀ a, a ∈ l → ToOk a) ∧ (0 < l.length → ∃ g off, pa = some ⟨g, off, none⟩ ∧ g < w.heap.size ∧ HasT w g off l)
theorem RowT.below {B : Nat} {w w' : World} {pa : Option Addr} {l : List To} (h : RowT w pa l) (hb : Below B w w') (hB : w.heap.size ≤ B) : RowT w' pa l :=
  ⟨h.1, h.2.1, fun hl => by
    obtain ⟨g, off, e, hg, hh⟩ := h.2.2 hl
    exact ⟨g, off, e, Nat.lt_of_lt_of_le hg hb.size, hh.below hb (Nat.lt_of_lt_of_le hg hB)⟩⟩
set_option maxHeartbeats 4000000 in
theorem sameT_any (w : World) (pa pb : Option Addr) (l m : List To) (c e : Nat) (hl : RowT w pa l) (hm : RowT w pb m) :
    Calls Tryz.prog 28 #[.slice pa l.length c, .slice pb m.length e] w fun e w' => e = .returned (.bool (decide (l = m))) ∧ Below w.heap.size w w' := by
  have hli : (l.length : Int) ≤ 9223372036854775807 := by have := hl.1; unfold maxLen at this; omega
  have hmi : (m.length : Int) ≤ 9223372036854775807 := by have := hm.1; unfold maxLen at this; omega
  have HS := Lib.hid (And.intro hl hm)
  clear hl hm
  by_cases hlen : l.length = m.length
  · rw [hlen]
    have HL := Lib.hid hlen
    clear hlen
    go_enter Tryz.func28, Tryz.ntmps28
    go_wp2_with fail
    go_loopw [5] (fun i W => ∃ k : Nat, k ≤ m.length ∧ i = .int .i64 k ∧ Below w.heap.size w W ∧ ∀ i, i < k → l[i]? = m[i]?) (fun i _ => m.length - (intOf i).toNat)
    case atStart => exact ⟨0, Nat.zero_le _, rfl, Below.refl _ _, fun i hi => absurd hi (by omega)⟩
    case round =>
      obtain ⟨k, hk, rfl, hb, hall⟩ := hrel
      have hlen := HL.out
      by_cases hlt : k < m.length
      · have m1 : (k : Int) < (m.length : Int) := by omega
        have m0 : (0 : Int) ≤ (k : Int) := by omega
        obtain ⟨g, off, rfl, hg, hh⟩ := HS.out.1.2.2 (by omega)
        obtain ⟨g', off', rfl, hg', hh'⟩ := HS.out.2.2.2 (by omega)
        obtain ⟨a, ha⟩ : ∃ a, a = l[k] := ⟨_, rfl⟩
        obtain ⟨b, hb'⟩ : ∃ b, b = m[k] := ⟨_, rfl⟩
        have hka : l[k]? = some a := by rw [ha, List.getElem?_eq_getElem (by omega)]
        have hkb : m[k]? = some b := by rw [hb', List.getElem?_eq_getElem hlt]
        have oka := HS.out.1.2.1 a (List.mem_of_getElem? hka)
        have okb := HS.out.2.2.1 b (List.mem_of_getElem? hkb)
        obtain ⟨va, hva⟩ : ∃ v, v = toC a := ⟨_, rfl⟩
        obtain ⟨vb, hvb⟩ : ∃ v, v = toC b := ⟨_, rfl⟩
        have hvs : va.size = 35 := by rw [hva]; exact toC_size a oka.1
        have hvt : vb.size = 35 := by rw [hvb]; exact toC_size b okb.1
        have heq : ∀ W, (Op.equalIn 10000 75 (.agg va) (.agg vb)).run Tryz.prog W = .ok (decide (a = b)) W := fun W => by rw [hva, hvb]; exact eq_to W a b oka okb
        have HR1 : Hid (∀ W, Below w.heap.size w W → W.rangeAt g (off + k * 35) va.toList ∧ W.rangeAt g' (off' + k * 35) vb.toList) := Lib.hid fun W hW => by
          rw [hva, hvb]
          exact ⟨(hh.below hW hg) k a hka, (hh'.below hW hg') k b hkb⟩
        have HR := Lib.hid (And.intro hb (And.intro hall (And.intro hlt (And.intro hka (And.intro hkb (And.intro hvs hvt))))))
        have HI := Lib.hid (And.intro (show (Tryz.prog.info? 75).map (·.size) = some va.size by rw [hvs]; exact info_total) (show (Tryz.prog.info? 75).map (·.size) = some vb.size by rw [hvt]; exact info_total))
        clear hlen hb hall hlt hk ha hb' hka hkb oka okb hva hvb hvs hvt hh hh' hg hg'
        go_upto_region 6 with fail
        refine wp_region_noPanic (wp_region_held (S := fun V => V.rangeAt g (off + k * 35) va.toList ∧ V.rangeAt g' (off' + k * 35) vb.toList) (by kernel_rfl) ?_)
        change wpAnyH _ _ _ _ _ 9 _ _ (World.drew wr)
        have hcur := HR1.out _ HR.out.1.drew
        have hbd : Below w.heap.size w wr.drew := HR.out.1.drew
        have HBD := Lib.hid hbd
        clear hbd
        by_cases hab : a = b
        · have hd : decide (a = b) = true := by simp [hab]
          have HAB := Lib.hid hab
          clear hab
          refine held_take (i := 0) (v := (.slice (some ⟨g, off, none⟩) m.length c)) rfl 17 rfl (by kernel_rfl) (by kernel_rfl) (by kernel_rfl) (fun _ _ _ h => h) (by rfl) (by intro w' hS'; unfold execOp; simp [go_sem]) hcur _ rfl ?_
          simp only [Act.put, List.setIfInBounds_toArray, List.set_cons_zero, List.set_cons_succ]
          refine held_take (i := 1) (v := (.int .i64 k)) rfl 18 rfl (by kernel_rfl) (by kernel_rfl) (by kernel_rfl) (fun _ _ _ h => h) (by rfl) (by intro w' hS'; unfold execOp; simp [go_sem]) hcur _ rfl ?_
          simp only [Act.put, List.setIfInBounds_toArray, List.set_cons_zero, List.set_cons_succ]
          refine held_take (i := 2) (v := (.pointer (some ⟨g, off + k * 35, none⟩))) rfl 19 rfl (by kernel_rfl) (by kernel_rfl) (by kernel_rfl) (fun _ _ _ h => h) (by rfl) (by intro w' hS'; unfold execOp; simp [go_sem, m0, m1]) hcur _ rfl ?_
          simp only [Act.put, List.setIfInBounds_toArray, List.set_cons_zero, List.set_cons_succ]
          refine held_take (i := 3) (v := (.agg va)) rfl 20 rfl (by kernel_rfl) (by kernel_rfl) (by kernel_rfl) (fun _ _ _ h => h) (by rfl) (by intro w' hS'; exact exec_loadM 75 _ rfl _ _ rfl va hS'.1 Tryz.underlying75 rfl HI.out.1) hcur _ rfl ?_
          simp only [Act.put, List.setIfInBounds_toArray, List.set_cons_zero, List.set_cons_succ]
          refine held_take (i := 4) (v := (.slice (some ⟨g', off', none⟩) m.length e)) rfl 21 rfl (by kernel_rfl) (by kernel_rfl) (by kernel_rfl) (fun _ _ _ h => h) (by rfl) (by intro w' hS'; unfold execOp; simp [go_sem]) hcur _ rfl ?_
          simp only [Act.put, List.setIfInBounds_toArray, List.set_cons_zero, List.set_cons_succ]
          refine held_take (i := 5) (v := (.int .i64 k)) rfl 22 rfl (by kernel_rfl) (by kernel_rfl) (by kernel_rfl) (fun _ _ _ h => h) (by rfl) (by intro w' hS'; unfold execOp; simp [go_sem]) hcur _ rfl ?_
          simp only [Act.put, List.setIfInBounds_toArray, List.set_cons_zero, List.set_cons_succ]
          refine held_take (i := 6) (v := (.pointer (some ⟨g', off' + k * 35, none⟩))) rfl 23 rfl (by kernel_rfl) (by kernel_rfl) (by kernel_rfl) (fun _ _ _ h => h) (by rfl) (by intro w' hS'; unfold execOp; simp [go_sem, m0, m1]) hcur _ rfl ?_
          simp only [Act.put, List.setIfInBounds_toArray, List.set_cons_zero, List.set_cons_succ]
          refine held_take (i := 7) (v := (.agg vb)) rfl 24 rfl (by kernel_rfl) (by kernel_rfl) (by kernel_rfl) (fun _ _ _ h => h) (by rfl) (by intro w' hS'; exact exec_loadM 75 _ rfl _ _ rfl vb hS'.2 Tryz.underlying75 rfl HI.out.2) hcur _ rfl ?_
          simp only [Act.put, List.setIfInBounds_toArray, List.set_cons_zero, List.set_cons_succ]
          refine held_take (i := 8) (v := (.bool false)) rfl 25 rfl (by kernel_rfl) (by kernel_rfl) (by kernel_rfl) (fun _ _ _ h => h) (by rfl) (by intro w' hS'; unfold execOp; simp [go_sem, heq, hd]) hcur _ rfl ?_
          simp only [Act.put, List.setIfInBounds_toArray, List.set_cons_zero, List.set_cons_succ]
          refine wpAnyH_done (by kernel_rfl) ?_ _
          unfold NoPanic
          dsimp only
          clear hcur heq hd
          go_wp2_with fail
          have e1 : (k : Int) + 1 = ((k + 1 : Nat) : Int) := by omega
          rw [e1]
          refine ⟨⟨k + 1, HR.out.2.2.1, rfl, HBD.out, fun i hi => ?_⟩, ?_⟩
          · by_cases e : i = k
            · rw [e, HR.out.2.2.2.1, HR.out.2.2.2.2.1, HAB.out]
            · exact HR.out.2.1 i (by omega)
          · have h := HR.out.2.2.1
            show m.length - (k + 1) < m.length - k
            omega
        · have hd : decide (a = b) = false := by simp [hab]
          have HAB := Lib.hid (show l ≠ m from fun e => hab (by
            have h1 := HR.out.2.2.2.1
            rw [e, HR.out.2.2.2.2.1] at h1
            exact (Option.some.inj h1).symm))
          clear hab
          refine held_take (i := 0) (v := (.slice (some ⟨g, off, none⟩) m.length c)) rfl 17 rfl (by kernel_rfl) (by kernel_rfl) (by kernel_rfl) (fun _ _ _ h => h) (by rfl) (by intro w' hS'; unfold execOp; simp [go_sem]) hcur _ rfl ?_
          simp only [Act.put, List.setIfInBounds_toArray, List.set_cons_zero, List.set_cons_succ]
          refine held_take (i := 1) (v := (.int .i64 k)) rfl 18 rfl (by kernel_rfl) (by kernel_rfl) (by kernel_rfl) (fun _ _ _ h => h) (by rfl) (by intro w' hS'; unfold execOp; simp [go_sem]) hcur _ rfl ?_
          simp only [Act.put, List.setIfInBounds_toArray, List.set_cons_zero, List.set_cons_succ]
          refine held_take (i := 2) (v := (.pointer (some ⟨g, off + k * 35, none⟩))) rfl 19 rfl (by kernel_rfl) (by kernel_rfl) (by kernel_rfl) (fun _ _ _ h => h) (by rfl) (by intro w' hS'; unfold execOp; simp [go_sem, m0, m1]) hcur _ rfl ?_
          simp only [Act.put, List.setIfInBounds_toArray, List.set_cons_zero, List.set_cons_succ]
          refine held_take (i := 3) (v := (.agg va)) rfl 20 rfl (by kernel_rfl) (by kernel_rfl) (by kernel_rfl) (fun _ _ _ h => h) (by rfl) (by intro w' hS'; exact exec_loadM 75 _ rfl _ _ rfl va hS'.1 Tryz.underlying75 rfl HI.out.1) hcur _ rfl ?_
          simp only [Act.put, List.setIfInBounds_toArray, List.set_cons_zero, List.set_cons_succ]
          refine held_take (i := 4) (v := (.slice (some ⟨g', off', none⟩) m.length e)) rfl 21 rfl (by kernel_rfl) (by kernel_rfl) (by kernel_rfl) (fun _ _ _ h => h) (by rfl) (by intro w' hS'; unfold execOp; simp [go_sem]) hcur _ rfl ?_
          simp only [Act.put, List.setIfInBounds_toArray, List.set_cons_zero, List.set_cons_succ]
          refine held_take (i := 5) (v := (.int .i64 k)) rfl 22 rfl (by kernel_rfl) (by kernel_rfl) (by kernel_rfl) (fun _ _ _ h => h) (by rfl) (by intro w' hS'; unfold execOp; simp [go_sem]) hcur _ rfl ?_
          simp only [Act.put, List.setIfInBounds_toArray, List.set_cons_zero, List.set_cons_succ]
          refine held_take (i := 6) (v := (.pointer (some ⟨g', off' + k * 35, none⟩))) rfl 23 rfl (by kernel_rfl) (by kernel_rfl) (by kernel_rfl) (fun _ _ _ h => h) (by rfl) (by intro w' hS'; unfold execOp; simp [go_sem, m0, m1]) hcur _ rfl ?_
          simp only [Act.put, List.setIfInBounds_toArray, List.set_cons_zero, List.set_cons_succ]
          refine held_take (i := 7) (v := (.agg vb)) rfl 24 rfl (by kernel_rfl) (by kernel_rfl) (by kernel_rfl) (fun _ _ _ h => h) (by rfl) (by intro w' hS'; exact exec_loadM 75 _ rfl _ _ rfl vb hS'.2 Tryz.underlying75 rfl HI.out.2) hcur _ rfl ?_
          simp only [Act.put, List.setIfInBounds_toArray, List.set_cons_zero, List.set_cons_succ]
          refine held_take (i := 8) (v := (.bool true)) rfl 25 rfl (by kernel_rfl) (by kernel_rfl) (by kernel_rfl) (fun _ _ _ h => h) (by rfl) (by intro w' hS'; unfold execOp; simp [go_sem, heq, hd]) hcur _ rfl ?_
          simp only [Act.put, List.setIfInBounds_toArray, List.set_cons_zero, List.set_cons_succ]
          refine wpAnyH_done (by kernel_rfl) ?_ _
          unfold NoPanic
          dsimp only
          clear hcur heq hd
          go_wp2_with fail
          go_ret
          refine ⟨?_, HBD.out⟩
          rw [decide_eq_false HAB.out]
          rfl
      · have e1 : k = m.length := by omega
        have HF := Lib.hid (And.intro hb (show l = m from List.ext_getElem? fun i => by
          by_cases hi : i < k
          · exact hall i hi
          · rw [List.getElem?_eq_none (by omega), List.getElem?_eq_none (by omega)]))
        have m1 : ¬ (k : Int) < (m.length : Int) := by omega
        clear hb hall e1 hk hlt hlen
        go_wp2_with fail
        go_ret
        refine ⟨?_, HF.out.1⟩
        rw [decide_eq_true HF.out.2]
        rfl
  · have hne : ¬ (l.length : Int) = (m.length : Int) := by omega
    have HN := Lib.hid (show l ≠ m from fun e => hlen (by rw [e]))
    clear hlen
    go_enter Tryz.func28, Tryz.ntmps28
    go_wp2_with fail
    go_ret
    refine ⟨?_, Below.refl _ _⟩
    rw [decide_eq_false HN.out]
    rfl
end Go.Proofs.YtjngghihciimjaaGreat
namespace Go.Proofs.YtjngghihciimjaaGreat
set_option maxRecDepth 100000
open Go.RowKit Go.Sort

set_option maxHeartbeats 4000000 in
theorem assetsOf_any (w : World) (pa : Option Addr) (l : List As) (c : Nat) (lim : Int) (h : Row w pa l) :
    Calls Tryz.prog 130 #[.slice pa l.length c, .int .i64 lim] w fun e w' => (∃ n, e = .returned (.int .i64 n)) ∧ Below w.heap.size w w' := by
  have hli : (l.length : Int) ≤ 9223372036854775807 := by have := h.1; unfold maxLen at this; omega
  have H := Lib.hid h
  clear h
  go_enter Tryz.func130, Tryz.ntmps130
  go_wp2_with fail
  go_loopw [5, 6] (fun s i W => ∃ (k : Nat) (n : Int), k ≤ l.length ∧ s = .int .i64 n ∧ i = .int .i64 k ∧ Below w.heap.size w W) (fun _ i _ => l.length - (intOf i).toNat)
  case atStart => exact ⟨0, 0, Nat.zero_le _, rfl, rfl, Below.refl _ _⟩
  case round =>
    obtain ⟨k, n, hk, rfl, rfl, hb⟩ := hrel
    by_cases hlt : k < l.length
    · have m1 : (k : Int) < (l.length : Int) := by omega
      have m0 : (0 : Int) ≤ (k : Int) := by omega
      by_cases hn : n ≤ lim
      · obtain ⟨g, off, rfl, hg, hh⟩ := H.out.2.2 (by omega)
        obtain ⟨a, ha⟩ : ∃ a, a = l[k] := ⟨_, rfl⟩
        have hka : l[k]? = some a := by rw [ha, List.getElem?_eq_getElem hlt]
        have oka := H.out.2.1 a (List.mem_of_getElem? hka)
        have c32 := (hh.below hb hg) k a hka 32 (.string (txt a.nm.2)) (by rw [Array.getElem?_toList]; exact asC_txt a oka.1)
        have hts := txt_size a.nm.2
        have ht := oka.2.1
        have HR := Lib.hid (And.intro hb hlt)
        generalize txt a.nm.2 = tv at c32 hts
        have hti : (tv.size : Int) ≤ 9223372036854775807 := by unfold maxLen at ht; omega
        clear ha hka oka hg hh hb hlt hk hts ht
        go_wp2_with fail
        have e1 : (k : Int) + 1 = ((k + 1 : Nat) : Int) := by omega
        rw [e1]
        refine ⟨⟨k + 1, _, HR.out.2, rfl, rfl, HR.out.1⟩, ?_⟩
        have h := HR.out.2
        show l.length - (k + 1) < l.length - k
        omega
      · have HB := Lib.hid hb
        clear hb hlt hk
        go_wp2_with fail
        go_ret
        exact ⟨⟨n, rfl⟩, HB.out⟩
    · have m1 : ¬ (k : Int) < (l.length : Int) := by omega
      have HB := Lib.hid hb
      clear hb hlt hk
      go_wp2_with fail
      go_ret
      exact ⟨⟨n, rfl⟩, HB.out⟩
set_option maxHeartbeats 1000000 in
theorem valueOf_any (w : World) (x : Int) (pa : Option Addr) (l : List As) (c : Nat) (lim : Int) (h : Row w pa l) :
    Calls Tryz.prog 84 #[.agg (vC x pa l.length c), .int .i64 lim] w fun e w' => (∃ n, e = .returned (.int .i64 n)) ∧ Below w.heap.size w w' := by
  have hli : (l.length : Int) ≤ 9223372036854775807 := by have := h.1; unfold maxLen at this; omega
  have hb1 : Below w.heap.size w (w.alloc (.cells (vC x pa l.length c) 24)) := (Below.refl _ _).alloc (Nat.le_refl _) _
  have hL : Lies (w.alloc (.cells (vC x pa l.length c) 24)) w.heap.size (vC x pa l.length c) 24 := Lies.new _ _ _
  have hC := assetsOf_any _ pa l c lim (h.below hb1 (Nat.le_refl _))
  have H := Lib.hid (And.intro hC hb1)
  have c0 := hL.cell 0 (v := .int .i64 x) rfl
  have c1 := hL.cell 1 (v := .slice pa l.length c) rfl
  clear h hC hb1 hL
  unfold vC
  unfold vC at H c0 c1
  go_enter Tryz.func84, Tryz.ntmps84
  go_wp2_with fail
  refine H.out.1.mono ?_
  rintro e w2 ⟨⟨n, rfl⟩, hb2⟩
  have HB := Lib.hid (H.out.2.trans (hb2.mono H.out.2.size))
  clear hb2 c0 c1
  go_wp2_with fail
  go_ret
  exact ⟨⟨_, rfl⟩, HB.out⟩
/-- A bundle: its number, its row. -/
structure Va where
  coin : Int
  pa : Option Addr
  l : List As
  c : Nat
def vaC (v : Va) : Array Value := vC v.coin v.pa v.l.length v.c
theorem vaC_size (v : Va) : (vaC v).size = 2 := rfl
theorem vaC_one (v : Va) : (vaC v).all (·.oneCell') = true := by simp [vaC, vC, Value.oneCell']
theorem info_value : (Tryz.prog.info? 24).map (·.size) = some 2 := by kernel_rfl
/-- The number has 64 bits, the row lies in memory. -/
def VaOk (w : World) (v : Va) : Prop := -9223372036854775808 ≤ v.coin ∧ v.coin < 9223372036854775808 ∧ Row w v.pa v.l
/-- Bundles lie one behind the other. -/
def HasV (w : World) (g off : Nat) (vs : List Va) : Prop := ∀ (i : Nat) (v : Va), vs[i]? = some v → w.rangeAt g (off + i * 2) (vaC v).toList ∧ VaOk w v
theorem HasV.below {B : Nat} {w w' : World} {g off : Nat} {vs : List Va} (h : HasV w g off vs) (hb : Below B w w') (hg : g < B) (hB : w.heap.size ≤ B) : HasV w' g off vs :=
  fun i v hi => ⟨fun j x hj => (hb.cell (p := ⟨g, off + i * 2 + j, none⟩) hg).trans ((h i v hi).1 j x hj), (h i v hi).2.1, (h i v hi).2.2.1, (h i v hi).2.2.2.below hb hB⟩
def RowV (w : World) (pa : Option Addr) (vs : List Va) : Prop := vs.length ≤ maxLen ∧ (0 < vs.length → ∃ g off, pa = some ⟨g, off, none⟩ ∧ g < w.heap.size ∧ HasV w g off vs)
theorem RowV.below {B : Nat} {w w' : World} {pa : Option Addr} {vs : List Va} (h : RowV w pa vs) (hb : Below B w w') (hB : w.heap.size ≤ B) : RowV w' pa vs :=
  ⟨h.1, fun hl => by
    obtain ⟨g, off, e, hg, hh⟩ := h.2 hl
    exact ⟨g, off, e, Nat.lt_of_lt_of_le hg hb.size, hh.below hb (Nat.lt_of_lt_of_le hg hB) hB⟩⟩
set_option maxHeartbeats 4000000 in
theorem valuesOf_any (w : World) (pa : Option Addr) (vs : List Va) (c : Nat) (lim : Int) (h : RowV w pa vs) :
    Calls Tryz.prog 48 #[.slice pa vs.length c, .int .i64 lim] w fun e w' => (∃ n, e = .returned (.int .i64 n)) ∧ Below w.heap.size w w' := by
  have hli : (vs.length : Int) ≤ 9223372036854775807 := by have := h.1; unfold maxLen at this; omega
  have H := Lib.hid h
  clear h
  go_enter Tryz.func48, Tryz.ntmps48
  go_wp2_with fail
  go_loopw [5, 6] (fun s i W => ∃ (k : Nat) (n : Int), k ≤ vs.length ∧ s = .int .i64 n ∧ i = .int .i64 k ∧ Below w.heap.size w W) (fun _ i _ => vs.length - (intOf i).toNat)
  case atStart => exact ⟨0, 0, Nat.zero_le _, rfl, rfl, Below.refl _ _⟩
  case round =>
    obtain ⟨k, n, hk, rfl, rfl, hb⟩ := hrel
    by_cases hlt : k < vs.length
    · have m1 : (k : Int) < (vs.length : Int) := by omega
      have m0 : (0 : Int) ≤ (k : Int) := by omega
      by_cases hn : n ≤ lim
      · obtain ⟨g, off, rfl, hg, hh⟩ := H.out.2 (by omega)
        obtain ⟨v, hv⟩ : ∃ v, v = vs[k] := ⟨_, rfl⟩
        have hkv : vs[k]? = some v := by rw [hv, List.getElem?_eq_getElem hlt]
        have hvv := hh.below hb hg (Nat.le_refl _) k v hkv
        have c0 := hvv.1 0 (.int .i64 v.coin) rfl
        have c1 := hvv.1 1 (.slice v.pa v.l.length v.c) rfl
        have hcall : ∀ W, Below w.heap.size w W → Calls Tryz.prog 84 #[.agg #[.int .i64 v.coin, .slice v.pa v.l.length v.c], .int .i64 lim] W fun e w' => (∃ n, e = .returned (.int .i64 n)) ∧ Below W.heap.size W w' := fun W hW =>
          valueOf_any W v.coin v.pa v.l v.c lim ((hh k v hkv).2.2.2.below hW (Nat.le_refl _))
        have HC := Lib.hid hcall
        have HR := Lib.hid (And.intro hb hlt)
        rw [Nat.add_zero] at c0
        clear hv hkv hvv hcall hg hh hb hlt hk
        go_wp2_with fail
        refine (HC.out _ HR.out.1).mono ?_
        rintro e w2 ⟨⟨m, rfl⟩, hb2⟩
        have HB2 := Lib.hid (HR.out.1.trans (hb2.mono HR.out.1.size))
        clear hb2 c0 c1
        go_wp2_with fail
        have e1 : (k : Int) + 1 = ((k + 1 : Nat) : Int) := by omega
        rw [e1]
        refine ⟨⟨k + 1, _, HR.out.2, rfl, rfl, HB2.out⟩, ?_⟩
        have h := HR.out.2
        show vs.length - (k + 1) < vs.length - k
        omega
      · have HB := Lib.hid hb
        clear hb hlt hk
        go_wp2_with fail
        go_ret
        exact ⟨⟨n, rfl⟩, HB.out⟩
    · have m1 : ¬ (k : Int) < (vs.length : Int) := by omega
      have HB := Lib.hid hb
      clear hb hlt hk
      go_wp2_with fail
      go_ret
      exact ⟨⟨n, rfl⟩, HB.out⟩
/-- A row of bundles: where, which, its room. -/
structure Vr where
  pa : Option Addr
  vs : List Va
  c : Nat
def RowR (w : World) (pa : Option Addr) (rs : List Vr) : Prop := rs.length ≤ maxLen ∧ (0 < rs.length → ∃ g off, pa = some ⟨g, off, none⟩ ∧ g < w.heap.size ∧ ∀ (i : Nat) (r : Vr), rs[i]? = some r → w.cell? ⟨g, off + i, none⟩ = some (.slice r.pa r.vs.length r.c) ∧ RowV w r.pa r.vs)
def SomeB (e : Ending) : Prop := ∃ b, e = .returned (.bool b)
set_option maxHeartbeats 4000000 in
theorem great_any (w : World) (pa : Option Addr) (rs : List Vr) (c : Nat) (h : RowR w pa rs) :
    Calls Tryz.prog 7 #[.slice pa rs.length c] w fun e w' => SomeB e ∧ Below w.heap.size w w' := by
  have hli : (rs.length : Int) ≤ 9223372036854775807 := by have := h.1; unfold maxLen at this; omega
  have H := Lib.hid h
  clear h
  go_enter Tryz.func7, Tryz.ntmps7
  go_wp2_with fail
  go_loopw [3, 4] (fun s i W => ∃ (k : Nat) (n : Int), k ≤ rs.length ∧ s = .int .i64 n ∧ i = .int .i64 k ∧ Below w.heap.size w W) (fun _ i _ => rs.length - (intOf i).toNat)
  case atStart => exact ⟨0, 0, Nat.zero_le _, rfl, rfl, Below.refl _ _⟩
  case round =>
    obtain ⟨k, n, hk, rfl, rfl, hb⟩ := hrel
    by_cases hlt : k < rs.length
    · have m1 : (k : Int) < (rs.length : Int) := by omega
      have m0 : (0 : Int) ≤ (k : Int) := by omega
      obtain ⟨g, off, rfl, hg, hh⟩ := H.out.2 (by omega)
      obtain ⟨r, hr⟩ : ∃ r, r = rs[k] := ⟨_, rfl⟩
      have hkr : rs[k]? = some r := by rw [hr, List.getElem?_eq_getElem hlt]
      have c0 := (hb.cell (p := ⟨g, off + k, none⟩) hg).trans (hh k r hkr).1
      have HC := Lib.hid (fun W (hW : Below w.heap.size w W) => valuesOf_any W r.pa r.vs r.c 200 ((hh k r hkr).2.below hW (Nat.le_refl _)))
      have HR := Lib.hid (And.intro hb hlt)
      clear hr hkr hg hh hb hlt hk
      go_wp2_with fail
      refine (HC.out _ (by first | exact HR.out.1 | exact HR.out.1.drew)).mono ?_
      rintro e w2 ⟨⟨m, rfl⟩, hb2⟩
      have HB2 := Lib.hid (HR.out.1.trans ((by first | exact hb2 | exact hb2 : Below wr.heap.size wr w2).mono HR.out.1.size))
      clear hb2 c0
      go_wp2_with fail
      have e1 : (k : Int) + 1 = ((k + 1 : Nat) : Int) := by omega
      rw [e1]
      refine ⟨⟨k + 1, _, HR.out.2, rfl, rfl, HB2.out⟩, ?_⟩
      have h := HR.out.2
      show rs.length - (k + 1) < rs.length - k
      omega
    · have m1 : ¬ (k : Int) < (rs.length : Int) := by omega
      have HB := Lib.hid hb
      clear hb hlt hk
      go_wp2_with fail
      go_ret
      exact ⟨⟨_, rfl⟩, HB.out⟩
end Go.Proofs.YtjngghihciimjaaGreat
namespace Go.Proofs.YtjngghihciimjaaGreat
set_option maxRecDepth 100000
open Go.RowKit Go.Sort

/-- A panic of the library's own error, of some number. -/
def Fault (e : Ending) : Prop := ∃ n, e = .panicked [{ v := .iface 139 (.int .i64 n), recovered := false }]
def rightV (v : Va) : Bool := rightB v.coin v.l
def Musts (vs : List Va) (e : Ending) : Prop := (vs.all rightV = true ∧ ∃ v, e = .returned v) ∨ (vs.all rightV = false ∧ Fault e)
set_option maxHeartbeats 4000000 in
theorem mustRight_any (w : World) (pa : Option Addr) (vs : List Va) (c : Nat) (h : RowV w pa vs) :
    Calls Tryz.prog 51 #[.slice pa vs.length c] w fun e w' => Musts vs e ∧ Below w.heap.size w w' := by
  have hli : (vs.length : Int) ≤ 9223372036854775807 := by have := h.1; unfold maxLen at this; omega
  have H := Lib.hid h
  clear h
  go_enter Tryz.func51, Tryz.ntmps51
  go_wp2_with fail
  go_loopw [6] (fun i W => ∃ k : Nat, k ≤ vs.length ∧ i = .int .i64 k ∧ Below w.heap.size w W ∧ ∀ (i : Nat) (v : Va), i < k → vs[i]? = some v → rightV v = true) (fun i _ => vs.length - (intOf i).toNat)
  case atStart => exact ⟨0, Nat.zero_le _, rfl, Below.refl _ _, fun i v hi => absurd hi (by omega)⟩
  case round =>
    obtain ⟨k, hk, rfl, hb, hall⟩ := hrel
    by_cases hlt : k < vs.length
    · have m1 : (k : Int) < (vs.length : Int) := by omega
      have m0 : (0 : Int) ≤ (k : Int) := by omega
      obtain ⟨g, off, rfl, hg, hh⟩ := H.out.2 (by omega)
      obtain ⟨v, hv⟩ : ∃ v, v = vs[k] := ⟨_, rfl⟩
      have hkv : vs[k]? = some v := by rw [hv, List.getElem?_eq_getElem hlt]
      have hvv := hh.below hb hg (Nat.le_refl _) k v hkv
      have c0 := hvv.1 0 (.int .i64 v.coin) rfl
      have c1 := hvv.1 1 (.slice v.pa v.l.length v.c) rfl
      have HC : Hid (∀ W, Below w.heap.size w W → Calls Tryz.prog 14 #[.agg #[.int .i64 v.coin, .slice v.pa v.l.length v.c]] W fun e w' => e = .returned (.bool (rightV v)) ∧ Below W.heap.size W w') := Lib.hid fun W hW =>
        right_any W v.coin v.pa v.l v.c ((hh k v hkv).2.2.2.below hW (Nat.le_refl _))
      have HR := Lib.hid (And.intro hb (And.intro hall (And.intro hlt hkv)))
      rw [Nat.add_zero] at c0
      clear hv hkv hvv hg hh hb hlt hk hall
      cases hr : rightV v with
      | true =>
        rw [hr] at HC
        have hW : Below w.heap.size w (wr.alloc (.cells #[.int .i64 v.coin, .slice v.pa v.l.length v.c] 24)) := HR.out.1.alloc HR.out.1.size _
        have HW := Lib.hid hW
        clear hW
        go_wp2_with fail
        refine (HC.out _ HW.out).mono ?_
        rintro e w2 ⟨rfl, hb2⟩
        have HB2 := Lib.hid (HW.out.trans (hb2.mono HW.out.size))
        clear hb2 c0 c1
        go_wp2_with fail
        have e1 : (k : Int) + 1 = ((k + 1 : Nat) : Int) := by omega
        rw [e1]
        refine ⟨⟨k + 1, HR.out.2.2.1, rfl, HB2.out, fun i x hi hx => ?_⟩, ?_⟩
        · by_cases e : i = k
          · subst e
            have h1 := HR.out.2.2.2
            rw [hx] at h1
            rw [Option.some.inj h1]
            exact hr
          · exact HR.out.2.1 i x (by omega) hx
        · have h := HR.out.2.2.1
          show vs.length - (k + 1) < vs.length - k
          omega
      | false =>
        rw [hr] at HC
        have hW : Below w.heap.size w (wr.alloc (.cells #[.int .i64 v.coin, .slice v.pa v.l.length v.c] 24)) := HR.out.1.alloc HR.out.1.size _
        have HW := Lib.hid hW
        clear hW
        have HF := Lib.hid (show vs.all rightV = false by
          rw [List.all_eq_false]
          exact ⟨v, List.mem_of_getElem? HR.out.2.2.2, by rw [hr]; simp⟩)
        clear hr
        go_wp2_with fail
        refine (HC.out _ HW.out).mono ?_
        rintro e w2 ⟨rfl, hb2⟩
        have HB2 := Lib.hid (HW.out.trans (hb2.mono HW.out.size))
        clear hb2 c0 c1
        go_wp2_with fail
        exact ⟨rfl, .inr ⟨HF.out, 2, rfl⟩, HB2.out⟩
    · have m1 : ¬ (k : Int) < (vs.length : Int) := by omega
      have HB := Lib.hid (And.intro hb (show vs.all rightV = true by
        rw [List.all_eq_true]
        intro v hv
        obtain ⟨i, hi⟩ := List.getElem?_of_mem hv
        exact hall i v (by have := (List.getElem?_eq_some_iff.1 hi).1; omega) hi))
      clear hb hlt hk hall
      go_wp2_with fail
      go_end0
      exact ⟨.inl ⟨HB.out.2, _, rfl⟩, HB.out.1⟩
def Amounts (x : BitVec 128) (e : Ending) : Prop := (fitsW x = true ∧ e = .returned (.int .i64 x.toNat)) ∨ (fitsW x = false ∧ Fault e)
set_option maxHeartbeats 1000000 in
theorem amounts_any (w : World) (x : BitVec 128) :
    Calls Tryz.prog 86 #[wv x] w fun e w' => Amounts x e ∧ Below w.heap.size w w' := by
  cases hx : fitsW x with
  | true => exact (amount_any w x hx).mono fun e w' h => ⟨.inl ⟨hx, h.1⟩, h.2⟩
  | false =>
    have hno : ¬ (hiS x = 0 ∧ loN x < 9223372036854775808) := fun h => by rw [(fits_halves x).2 h] at hx; exact absurd hx (by decide)
    have hb1 : Below w.heap.size w (w.alloc (.cells #[.int .i64 (hiS x), .int .u64 (loN x)] 48)) := (Below.refl _ _).alloc (Nat.le_refl _) _
    have H := Lib.hid (And.intro hx hb1)
    unfold wv
    clear hx hb1
    by_cases h0 : hiS x = 0
    · have hlo : (9223372036854775807 : Int) < (loN x : Int) := by
        have : ¬ loN x < 9223372036854775808 := fun h => hno ⟨h0, h⟩
        omega
      rw [h0] at H ⊢
      clear hno h0
      generalize loN x = lo at hlo H ⊢
      go_enter Tryz.func86, Tryz.ntmps86
      go_wp2
      exact ⟨rfl, .inr ⟨H.out.1, 9, rfl⟩, H.out.2⟩
    · clear hno
      generalize hiS x = hi at h0 H ⊢
      generalize loN x = lo at H ⊢
      go_enter Tryz.func86, Tryz.ntmps86
      go_wp2
      exact ⟨rfl, .inr ⟨H.out.1, 9, rfl⟩, H.out.2⟩
end Go.Proofs.YtjngghihciimjaaGreat
namespace Go.Proofs.YtjngghihciimjaaGreat
set_option maxRecDepth 100000
open Go.RowKit Go.Sort Go.Maps

theorem laidOut : laidOutB Tryz.prog = true := by kernel_rfl
theorem row68 : (86 : TypeId) < Tryz.prog.types.size := of_decide_eq_true (by kernel_rfl)
theorem wide68 : (match Tryz.prog.underlying 86 with | some (.array _ _) | some (.struct _) => true | _ => false) = true := by rw [Tryz.underlying86]
theorem keyedName : Keyed Tryz.prog 86 := Keyed.of_law (deep_law_laid laidOut (m := 5) (by omega) row68 keyed_called wide68)
/-- What a name reads as, as a key. -/
def kN (n : Nm) : Lit := .string (keyBytes (litN n))
theorem key_nm (n : Nm) (h : n.1.length = 32) (ht : n.2.length ≤ maxLen) : keyOf Tryz.prog 86 (.agg (nmC n)) = some (kN n) := by
  obtain ⟨d, hd⟩ : ∃ d, Tryz.prog.types.size + 1 = d + 3 := ⟨Tryz.prog.types.size - 2, by have : 2 ≤ Tryz.prog.types.size := of_decide_eq_true (by kernel_rfl); omega⟩
  have hk : Tryz.prog.keyType 86 = true := by kernel_rfl
  unfold keyOf
  rw [Tryz.underlying86]
  simp only [hk, formed_nm n h, Bool.and_self, if_true, hd]
  rw [show (Value.agg (nmC n)).cells.toList = (nmC n).toList from rfl, lits_nm d n h ht]
  rfl
theorem kN_inj {a b : Nm} (ha : a.1.length = 32) (hb : b.1.length = 32) (ta : a.2.length ≤ maxLen) (tb : b.2.length ≤ maxLen) (h : kN a = kN b) : a = b := by
  unfold kN at h
  have h1 := keyLits_inj (lits_nm 0 a ha ta) (lits_nm 0 b hb tb) (by simpa using h)
  exact litN_inj ha hb h1
/-- How a sum reads. -/
noncomputable def rdW (v : Value) : Option (DataW Unit × List MemPlace) := open Classical in if h : ∃ x, v = wv x then some (.lit (.int .u64 (Classical.choose h).toNat), []) else none
def dW (x : BitVec 128) : DataW Unit := .lit (.int .u64 x.toNat)
theorem rdW_wv (x : BitVec 128) : rdW (wv x) = some (dW x, []) := by
  have h : ∃ y, wv x = wv y := ⟨x, rfl⟩
  unfold rdW
  rw [dif_pos h, ← wv_inj (Classical.choose_spec h)]
  rfl
theorem dW_inj {x y : BitVec 128} (h : dW x = dW y) : x = y := by
  unfold dW at h
  simp only [DataW.lit.injEq, Lit.int.injEq, true_and] at h
  exact BitVec.eq_of_toNat_eq (by omega)
theorem rdW_inv {v : Value} {x : BitVec 128} {ps : List MemPlace} (h : rdW v = some (dW x, ps)) : v = wv x := by
  unfold rdW at h
  split at h
  · rename_i hh
    have e := Classical.choose_spec hh
    simp only [Option.some.injEq, Prod.mk.injEq] at h
    rw [e, dW_inj (x := Classical.choose hh) h.1]
  · cases h
/-- The map holds f: what has no entry has 0. -/
def HoldsF (D : DataW Unit) (f : Nm → BitVec 128) : Prop := ∀ n : Nm, n.1.length = 32 → n.2.length ≤ maxLen → D.atKey (kN n) (dW 0) = dW (f n)
def addAt (f : Nm → BitVec 128) (n : Nm) (x : BitVec 128) : Nm → BitVec 128 := fun m => if m = n then f n + x else f m
theorem HoldsF.put {D : DataW Unit} {f : Nm → BitVec 128} (h : HoldsF D f) (hD : IsMap D) (n : Nm) (x : BitVec 128) (hn : n.1.length = 32) (ht : n.2.length ≤ maxLen) : HoldsF (D.put (kN n) (dW (f n + x))) (addAt f n x) := fun m hm hmt => by
  unfold addAt
  by_cases e : m = n
  · subst e
    have hkk : WideAt.IsKeyLit (kN m) := trivial
    rw [atKey_put_same hD hkk]
    simp
  · rw [atKey_put_other (fun k => e (kN_inj hm hn hmt ht k)), h m hm hmt]
    simp [e]
theorem under70 : Tryz.prog.underlying 121 = some (.map 86 48) := Tryz.underlying121
theorem zeroW (w : World) : (zeroValue 48).run Tryz.prog w = .ok (wv 0) w := by
  rw [wv_zero]
  kernel_rfl
end Go.Proofs.YtjngghihciimjaaGreat
namespace Go.Proofs.YtjngghihciimjaaGreat
set_option maxRecDepth 100000
open Go.RowKit Go.Sort Go.Maps

theorem grown_of {w w' : World} {r : Option Nat} (h : Below w.heap.size w w') : w.grownBy w' r := ⟨h.1, h.2, h.3, h.size, fun i hi _ => h.block i hi⟩
theorem grown_trans {w w' w'' : World} {r : Option Nat} (h : w.grownBy w' r) (k : w'.grownBy w'' r) : w.grownBy w'' r :=
  ⟨k.os.trans h.os, k.tape.trans h.tape, k.output.trans h.output, Nat.le_trans h.size k.size, fun i hi hr => (k.block i (Nat.lt_of_lt_of_le hi h.size) hr).trans (h.block i hi hr)⟩
/-- The map has turned to D', nothing else that was there has. -/
def PutW (w w' : World) (b n : Nat) (D' : DataW Unit) : Prop := w'.ownsMap Tryz.prog 86 rdW b n D' ∧ w.grownBy w' (some b)
theorem wpOp_mapU {P : Program} {ops : Array Oper} {Q : Exit → Act → World → Prop} {i : Nat} {o : Oper} {a : Act} {w w' : World} {K : Act → World → Prop} (hi : ops[i]? = some o) (hg : o.guard = none) (m x v : Operand) (t : TypeId) (hop : o.op = Op.mapUpdate t m x v)
    (hrun : (Instr.mapUpdate t (a.eval m) (a.eval x) (a.eval v)).run P w = .ok () w') (h : K (a.put o.dst undef) w') : wpOp P ops Q i K a w := by
  refine wpOp_wp hi hg ?_
  unfold Oper.wp
  simp [execOp, hop, hrun, Result.andThen]
  exact h
set_option maxHeartbeats 2000000 in
theorem put_any (w : World) (b n : Nat) (D : DataW Unit) (f : Nm → BitVec 128) (nm : Nm) (x : BitVec 128) (hown : w.ownsMap Tryz.prog 86 rdW b n D) (hf : HoldsF D f) (hn : n < maxLen)
    (hnm : nm.1.length = 32) (ht : nm.2.length ≤ maxLen) :
    Calls Tryz.prog 67 #[.map (some b), .agg (nmC nm), wv x] w fun e w' => e = .returned (.tuple #[]) ∧ PutW w w' b (n + 1) (D.put (kN nm) (dW (f nm + x))) := by
  obtain ⟨nv, hnv⟩ : ∃ v, v = nmC nm := ⟨_, rfl⟩
  have hkey := key_nm nm hnm ht
  have hin : (Tryz.prog.info? 86).map (·.size) = some nv.size := by rw [hnv, nmC_size nm hnm]; exact info_called
  rw [← hnv] at hkey ⊢
  have hat := hf nm hnm ht
  have H := Lib.hid (And.intro hown (And.intro hn (And.intro hkey (And.intro hin hat))))
  clear hown hf hn hnm ht hnv hkey hin hat
  rw [wv_wC]
  unfold wC
  go_enter Tryz.func67, Tryz.ntmps67
  go_upto_region 1 with fail
  have hl1 : Lies ((w.alloc (.cells nv 86)).alloc (.cells #[.int .i64 (hiS x), .int .u64 (loN x)] 48)) w.heap.size nv 86 := (Lies.new _ _ _).alloc _
  have hl2 : Lies ((w.alloc (.cells nv 86)).alloc (.cells #[.int .i64 (hiS x), .int .u64 (loN x)] 48)) (w.heap.size + 1) #[.int .i64 (hiS x), .int .u64 (loN x)] 48 := by
    have := Lies.new (w.alloc (.cells nv 86)) #[.int .i64 (hiS x), .int .u64 (loN x)] 48
    simpa using this
  have hb0 : Below w.heap.size w ((w.alloc (.cells nv 86)).alloc (.cells #[.int .i64 (hiS x), .int .u64 (loN x)] 48)) := ((Below.refl _ _).alloc (Nat.le_refl _) _).alloc (by simp) _
  generalize (w.alloc (.cells nv 86)).alloc (.cells #[.int .i64 (hiS x), .int .u64 (loN x)] 48) = W0 at hl1 hl2 hb0 ⊢
  have HS : Hid (∀ V, Below W0.heap.size W0 V → Lies V w.heap.size nv 86 ∧ Lies V (w.heap.size + 1) #[.int .i64 (hiS x), .int .u64 (loN x)] 48) := Lib.hid fun V hV => ⟨hl1.below hV hl1.lt, hl2.below hV hl2.lt⟩
  have H0 := Lib.hid hb0
  clear hl1 hl2 hb0
  refine wp_region_noPanic (wp_region_held (S := fun V => Lies V w.heap.size nv 86 ∧ Lies V (w.heap.size + 1) #[.int .i64 (hiS x), .int .u64 (loN x)] 48) (by kernel_rfl) ?_)
  change wpAnyH _ _ _ _ _ 9 _ _ (World.drew W0)
  have hbd : Below W0.heap.size W0 W0.drew := (Below.refl _ _).drew
  generalize World.drew W0 = wd at hbd ⊢
  have hcur := HS.out _ hbd
  have hbw : Below w.heap.size w wd := H0.out.trans (hbd.mono H0.out.size)
  have hownd := H.out.1.kept (grown_of (r := none) hbw) (by simp)
  obtain ⟨v, ps, hrun, hv⟩ := hownd.lookup keyedName under70 (zeroW wd) (rdW_wv 0) H.out.2.2.1
  rw [H.out.2.2.2.2] at hv
  have hve := rdW_inv hv
  subst hve
  unfold wv at hrun
  refine held_take (i := 0) (v := (.map (some b))) rfl 6 rfl (by kernel_rfl) (by kernel_rfl) (by kernel_rfl) (fun _ _ _ h => h) (by rfl) (by intro w' hS'; unfold execOp; simp [go_sem]) hcur _ rfl ?_
  simp only [Act.put, List.setIfInBounds_toArray, List.set_cons_zero, List.set_cons_succ]
  refine held_take (i := 1) (v := (.agg nv)) rfl 7 rfl (by kernel_rfl) (by kernel_rfl) (by kernel_rfl) (fun _ _ _ h => h) (by rfl) (by intro w' hS'; exact exec_loadM 86 _ rfl _ _ rfl nv (range_lies hS'.1) Tryz.underlying86 rfl H.out.2.2.2.1) hcur _ rfl ?_
  simp only [Act.put, List.setIfInBounds_toArray, List.set_cons_zero, List.set_cons_succ]
  refine held_take (i := 2) (v := (.map (some b))) rfl 8 rfl (by kernel_rfl) (by kernel_rfl) (by kernel_rfl) (fun _ _ _ h => h) (by rfl) (by intro w' hS'; unfold execOp; simp [go_sem]) hcur _ rfl ?_
  simp only [Act.put, List.setIfInBounds_toArray, List.set_cons_zero, List.set_cons_succ]
  refine held_take (i := 3) (v := (.agg nv)) rfl 9 rfl (by kernel_rfl) (by kernel_rfl) (by kernel_rfl) (fun _ _ _ h => h) (by rfl) (by intro w' hS'; exact exec_loadM 86 _ rfl _ _ rfl nv (range_lies hS'.1) Tryz.underlying86 rfl H.out.2.2.2.1) hcur _ rfl ?_
  simp only [Act.put, List.setIfInBounds_toArray, List.set_cons_zero, List.set_cons_succ]
  refine held_take (i := 5) (v := (.agg #[.int .i64 (hiS x), .int .u64 (loN x)])) rfl 11 rfl (by kernel_rfl) (by kernel_rfl) (by kernel_rfl) (fun _ _ _ h => h) (by rfl) (by intro w' hS'; exact exec_loadM 48 _ rfl _ _ rfl #[.int .i64 (hiS x), .int .u64 (loN x)] (range_lies hS'.2) Tryz.underlying48 rfl info_wide) hcur _ rfl ?_
  simp only [Act.put, List.setIfInBounds_toArray, List.set_cons_zero, List.set_cons_succ]
  refine held_one (i := 4) (by kernel_rfl) _ rfl (wpOp_valG (v := .agg #[.int .i64 (hiS (f nm)), .int .u64 (loN (f nm))]) (w' := wd) rfl (by rfl) 10 rfl (by unfold execOp; simp [go_sem, hrun]) ?_)
  refine ⟨hcur, ?_⟩
  simp only [Act.put, List.setIfInBounds_toArray, List.set_cons_zero, List.set_cons_succ]
  refine held_one (i := 6) (by kernel_rfl) _ rfl (wpOp_valG (v := .slice (some ⟨wd.heap.size, 0, none⟩) 2 2) (w' := wd.alloc (.cells #[.int .i64 (hiS (f nm)), .int .u64 (loN (f nm)), .int .i64 (hiS x), .int .u64 (loN x)] 48)) rfl (by rfl) 12 rfl (by unfold execOp; simp [go_sem]) ?_)
  have hb6 : Below wd.heap.size wd (wd.alloc (.cells #[.int .i64 (hiS (f nm)), .int .u64 (loN (f nm)), .int .i64 (hiS x), .int .u64 (loN x)] 48)) := (Below.refl _ _).alloc (Nat.le_refl _) _
  have hl6 : Lies (wd.alloc (.cells #[.int .i64 (hiS (f nm)), .int .u64 (loN (f nm)), .int .i64 (hiS x), .int .u64 (loN x)] 48)) wd.heap.size #[.int .i64 (hiS (f nm)), .int .u64 (loN (f nm)), .int .i64 (hiS x), .int .u64 (loN x)] 48 := Lies.new _ _ _
  generalize wd.alloc (.cells #[.int .i64 (hiS (f nm)), .int .u64 (loN (f nm)), .int .i64 (hiS x), .int .u64 (loN x)] 48) = w6 at hb6 hl6 ⊢
  have hb6' := hbd.trans (hb6.mono hbd.size)
  have hcur := HS.out _ hb6'
  refine ⟨hcur, ?_⟩
  simp only [Act.put, List.setIfInBounds_toArray, List.set_cons_zero, List.set_cons_succ]
  have hhas : HasW w6 wd.heap.size 0 [f nm, x] := fun i y hy j v hv => by
    have hr := range_lies hl6
    have hi : i = 0 ∨ i = 1 := by have := (List.getElem?_eq_some_iff.1 hy).1; simp at this; omega
    have hj : j < 2 := (List.getElem?_eq_some_iff.1 hv).1
    rcases hi with rfl | rfl
    · simp only [List.getElem?_cons_zero, Option.some.injEq] at hy
      subst hy
      have := hr j v (by
        have hj' : j = 0 ∨ j = 1 := by omega
        rcases hj' with rfl | rfl <;> exact hv)
      simpa using this
    · simp only [List.getElem?_cons_succ, List.getElem?_cons_zero, Option.some.injEq] at hy
      subst hy
      have := hr (2 + j) v (by
        have hj' : j = 0 ∨ j = 1 := by omega
        rcases hj' with rfl | rfl <;> exact hv)
      simpa using this
  have hplus := plus_any w6 wd.heap.size 0 2 [f nm, x] (show 2 ≤ maxLen by decide) hl6.lt hhas
  rw [show sumL [f nm, x] = f nm + x by simp [sumL]] at hplus
  refine held_one (i := 7) (by kernel_rfl) _ rfl (wpOp_callG rfl (by rfl) 13 rfl 36 #[.slice (some ⟨wd.heap.size, 0, none⟩) 2 2] (by unfold execOp; simp [go_sem]) _ (ret_of hplus) ?_)
  rintro v7 w7 ⟨rfl, hb7⟩
  have hb7' := hb6'.trans (hb7.mono hb6'.size)
  have hcur := HS.out _ hb7'
  refine ⟨hcur, ?_⟩
  simp only [Act.put, List.setIfInBounds_toArray, List.set_cons_zero, List.set_cons_succ]
  have hbw7 : Below w.heap.size w w7 := H0.out.trans (hb7'.mono H0.out.size)
  have hown7 := H.out.1.kept (grown_of (r := none) hbw7) (by simp)
  obtain ⟨w8, hrun8, hown8, hgr8⟩ := hown7.update keyedName under70 H.out.2.1 H.out.2.2.1 (rdW_wv (f nm + x))
  have hall := grown_trans (grown_of hbw7 : w.grownBy w7 (some b)) hgr8
  have hbl := H.out.1.lt
  have hS8 : Lies w8 w.heap.size nv 86 ∧ Lies w8 (w.heap.size + 1) #[.int .i64 (hiS x), .int .u64 (loN x)] 48 :=
    ⟨(hgr8.block _ hcur.1.lt (by simp; omega)).trans hcur.1, (hgr8.block _ hcur.2.lt (by simp; omega)).trans hcur.2⟩
  refine held_one (i := 8) (by kernel_rfl) _ rfl (wpOp_mapU rfl rfl _ _ _ 121 rfl hrun8 ?_)
  refine ⟨hS8, ?_⟩
  simp only [Act.put, List.setIfInBounds_toArray, List.set_cons_zero, List.set_cons_succ]
  refine wpAnyH_done (by kernel_rfl) ?_ _
  unfold NoPanic
  dsimp only
  go_end0
  exact ⟨rfl, hown8, hall⟩
end Go.Proofs.YtjngghihciimjaaGreat
