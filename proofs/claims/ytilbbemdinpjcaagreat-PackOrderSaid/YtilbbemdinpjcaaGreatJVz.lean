/-
  The sums of bundles: contributions, a world on the way (the walk of Sums is not done: see XVz.walk.txt).
-/
import Derived.Test.YtilbbemdinpjcaaGreatJVp
import Derived.DeepKeys4
import Derived.Maps.OwnSet
import Derived.Maps.Views
namespace Go.Proofs.YtilbbemdinpjcaaGreat
set_option maxRecDepth 100000
open Go.RowKit Go.Sort

/-- A total: its name, how much. -/
structure To where
  nm : Nm
  w : BitVec 128
def toC (a : To) : Array Value := B8 a.nm.1 ++ #[.string (txt a.nm.2), .int .i64 (hiS a.w), .int .u64 (loN a.w)]
def ToOk (a : To) : Prop := a.nm.1.length = 32 ∧ a.nm.2.length ≤ maxLen
theorem toC_size (a : To) (h : a.nm.1.length = 32) : (toC a).size = 35 := by simp [toC, B8_size, h]
theorem toC_one (a : To) : (toC a).all (·.oneCell') = true := by
  unfold toC
  rw [Array.all_append, B8_one]
  simp [Value.oneCell']
theorem toC_get (a : To) (h : a.nm.1.length = 32) (j : Nat) (hj : j < 32) : (toC a)[j]? = some (.int .u8 (a.nm.1.getD j 0).toNat) := by
  unfold toC
  rw [Array.getElem?_append_left (by rw [B8_size]; omega)]
  exact B8_get _ _ (by omega)
theorem toC_txt (a : To) (h : a.nm.1.length = 32) : (toC a)[32]? = some (.string (txt a.nm.2)) := by
  unfold toC
  rw [Array.getElem?_append_right (by rw [B8_size]; omega), B8_size, h]
  rfl
theorem toC_hi (a : To) (h : a.nm.1.length = 32) : (toC a)[33]? = some (.int .i64 (hiS a.w)) := by
  unfold toC
  rw [Array.getElem?_append_right (by rw [B8_size]; omega), B8_size, h]
  rfl
theorem toC_lo (a : To) (h : a.nm.1.length = 32) : (toC a)[34]? = some (.int .u64 (loN a.w)) := by
  unfold toC
  rw [Array.getElem?_append_right (by rw [B8_size]; omega), B8_size, h]
  rfl
theorem info_total : (Tryz.prog.info? 150).map (·.size) = some 35 := by kernel_rfl
attribute [-go_sem] Instr.build
set_option maxHeartbeats 1000000 in
theorem callTotal_gro (w : World) (a : To) (ha : a.nm.1.length = 32) :
    Calls Tryz.prog 136 #[.agg (toC a)] w fun e w' => e = .returned (.agg (nmC a.nm)) ∧ Below w.heap.size w w' ∧ w.drawn ≤ w'.drawn := by
  obtain ⟨va, hva⟩ : ∃ v, v = toC a := ⟨_, rfl⟩
  obtain ⟨z, hz⟩ : ∃ z, z = z33 := ⟨_, rfl⟩
  rw [← hva]
  have HA := Lib.hid (And.intro hva (And.intro ha hz))
  clear hva ha
  go_enter Tryz.func136, Tryz.ntmps136
  go_upto_region 1 with fail
  rw [show (#[Value.int .u8 0, .int .u8 0, .int .u8 0, .int .u8 0, .int .u8 0, .int .u8 0, .int .u8 0, .int .u8 0, .int .u8 0, .int .u8 0, .int .u8 0, .int .u8 0, .int .u8 0, .int .u8 0, .int .u8 0, .int .u8 0, .int .u8 0, .int .u8 0, .int .u8 0, .int .u8 0, .int .u8 0, .int .u8 0, .int .u8 0, .int .u8 0, .int .u8 0, .int .u8 0, .int .u8 0, .int .u8 0, .int .u8 0, .int .u8 0, .int .u8 0, .int .u8 0, .string ⟨#[]⟩] : Array Value) = z from by rw [hz]; kernel_rfl]
  have hl1 : Lies ((w.alloc (.cells va 150)).alloc (.cells z 255)) w.heap.size va 150 := (Lies.new _ _ _).alloc _
  have hl2 : Lies ((w.alloc (.cells va 150)).alloc (.cells z 255)) (w.heap.size + 1) z 255 := by
    have := Lies.new (w.alloc (.cells va 150)) z 255
    simpa using this
  have hb0 : Below w.heap.size w ((w.alloc (.cells va 150)).alloc (.cells z 255)) := ((Below.refl _ _).alloc (Nat.le_refl _) _).alloc (by simp) _
  have HD0 : Hid (w.drawn ≤ ((w.alloc (.cells va 150)).alloc (.cells z 255)).drawn) := Lib.hid (Nat.le_refl _)
  generalize (w.alloc (.cells va 150)).alloc (.cells z 255) = W0 at hl1 hl2 hb0 HD0 ⊢
  rw [HA.out.1] at hl1
  have hp : Src W0 w.heap.size 0 a.nm.1 := fun j hj => by
    rw [Nat.zero_add]
    exact hl1.cell j (toC_get a HA.out.2.1 j (by rw [← HA.out.2.1]; exact hj))
  have c32 := hl1.cell 32 (toC_txt a HA.out.2.1)
  have HP := Lib.hid (And.intro (pol_range hp) (And.intro hl2 hb0))
  have hnm : nmC a.nm = B8 a.nm.1 ++ #[.string (txt a.nm.2)] := rfl
  have hsz : (B8 a.nm.1).size = 32 := by rw [B8_size]; exact HA.out.2.1
  have HN := Lib.hid (And.intro hnm (And.intro hsz (nmC_size a.nm HA.out.2.1)))
  obtain ⟨pv, hpv⟩ : ∃ v, v = B8 a.nm.1 := ⟨_, rfl⟩
  obtain ⟨tv, htv⟩ : ∃ v, v = txt a.nm.2 := ⟨_, rfl⟩
  obtain ⟨nv, hnv⟩ : ∃ v, v = nmC a.nm := ⟨_, rfl⟩
  have hbl : ∀ W, (Instr.build 255 #[(0, .agg pv), (1, .string tv)]).run Tryz.prog W = .ok (.agg nv) W := fun W => by
    rw [hpv, htv, hnv]
    exact run_build W 255 _ _ (built_called a.nm.1 HA.out.2.1 (txt a.nm.2))
  rw [← hpv] at HP HN
  rw [← htv] at c32
  rw [← hnv] at HN
  have HV := Lib.hid (And.intro hpv hnv)
  clear hl1 hl2 hb0 hp hz hnm hsz hpv htv hnv
  go_wp2_with (first
    | (refine wpList_load_mid rfl 30 _ rfl w.heap.size 0 rfl pv.toList _ HP.out.1 Tryz.underlying30 rfl (by rw [Array.length_toList, HN.out.2.1]; exact info_hash) ?_)
    | (refine wpList_store_row rfl 255 _ _ rfl (w.heap.size + 1) nv rfl rfl 255 z HP.out.2.1 (by rw [HN.out.2.2]; exact info_called) (by rw [HN.out.2.2, HA.out.2.2]; rfl) (by rw [HV.out.2]; exact nmC_one _) ?_))
  refine bodyPost_ret (v := .agg nv) (results_cell_row (p := 2) (ty := 255) (by kernel_rfl) _ _ (w.heap.size + 1) 255 nv (0, 0) _ rfl (HP.out.2.1.setRow _) Tryz.underlying255 rfl (by rw [HN.out.2.2]; exact info_called)) rfl ⟨by rw [HV.out.2], below_setRow HP.out.2.2 _ _ (by omega), HD0.out⟩
theorem callTotal_any (w : World) (a : To) (ha : a.nm.1.length = 32) :
    Calls Tryz.prog 136 #[.agg (toC a)] w fun e w' => e = .returned (.agg (nmC a.nm)) ∧ Below w.heap.size w w' :=
  (callTotal_gro w a ha).mono fun _ _ h => ⟨h.1, h.2.1⟩

theorem ret_gro {P : Program} {f : FuncId} {args : Array Value} {w : World} {v : Value} {R : World → Prop} (h : Calls P f args w fun e w' => e = .returned v ∧ R w') : Calls P f args w fun e w' => ∃ u, e = .returned u ∧ (u = v ∧ R w') :=
  h.mono fun _ _ h => ⟨v, h.1, rfl, h.2⟩
theorem cells48 : Tryz.prog.cellsOf 150 = 35 := by kernel_rfl
theorem cells39 : Tryz.prog.cellsOf 148 = 2 := by kernel_rfl
theorem cells37 : Tryz.prog.cellsOf 69 = 1 := by kernel_rfl
theorem keyed_total : Tryz.prog.keyTypeAt 5 150 = true := by kernel_rfl
theorem keyed_wide : Tryz.prog.keyTypeAt 5 148 = true := by kernel_rfl
def litW (x : BitVec 128) : List Lit := [.int .i64 (hiS x), .int .u64 (loN x)]
theorem litW_inj {x y : BitVec 128} (h : litW x = litW y) : x = y := by
  unfold litW at h
  simp only [List.cons.injEq, Lit.int.injEq, true_and, and_true] at h
  exact w_inj h.1 (by omega)
theorem lits_w (d : Nat) (x : BitVec 128) : Tryz.prog.keyLits (d + 2) 148 (wC x).toList = some (litW x) := by
  have h1 : (Lit.int .i64 (hiS x)).wf = true := by
    have := hiS_lo x
    show (decide ((-9223372036854775808 : Int) ≤ hiS x) && decide (hiS x ≤ 9223372036854775807)) = true
    rw [Bool.and_eq_true_iff, decide_eq_true_iff, decide_eq_true_iff]
    omega
  have h2 : (Lit.int .u64 (loN x : Int)).wf = true := by
    have := loN_lt x
    show (decide ((0 : Int) ≤ (loN x : Int)) && decide ((loN x : Int) ≤ 18446744073709551615)) = true
    rw [Bool.and_eq_true_iff, decide_eq_true_iff, decide_eq_true_iff]
    omega
  unfold Program.keyLits
  simp only [Tryz.underlying148, cells39, wC, List.length_cons, List.length_nil]
  rw [if_pos ⟨trivial, by kernel_rfl⟩]
  simp [Program.keyLits, Tryz.underlying2, Tryz.underlying69, cells2, cells37, h1, h2, litW]
end Go.Proofs.YtilbbemdinpjcaaGreat
namespace Go.Proofs.YtilbbemdinpjcaaGreat
set_option maxRecDepth 100000
open Go.RowKit Go.Sort

theorem To.ext_iff' (a b : To) : a = b ↔ a.nm = b.nm ∧ a.w = b.w := by
  constructor
  · rintro rfl; exact ⟨rfl, rfl⟩
  · rintro ⟨h, k⟩; cases a; cases b; simp only at h k; rw [h, k]
instance : DecidableEq To := fun a b => decidable_of_iff _ (To.ext_iff' a b).symm
def litT' (a : To) : List Lit := litN a.nm ++ litW a.w
theorem litT_inj {a b : To} (ha : a.nm.1.length = 32) (hb : b.nm.1.length = 32) (h : litT' a = litT' b) : a = b := by
  unfold litT' at h
  have := List.append_inj h (by simp [litN, ha, hb])
  exact (To.ext_iff' a b).2 ⟨litN_inj ha hb this.1, litW_inj this.2⟩
theorem lits_to (d : Nat) (a : To) (h : ToOk a) : Tryz.prog.keyLits (d + 3) 150 (toC a).toList = some (litT' a) := by
  have hl : (B8 a.nm.1).toList.length = 32 := by rw [Array.length_toList, B8_size, h.1]
  have e : (toC a).toList = (B8 a.nm.1).toList ++ [.string (txt a.nm.2), .int .i64 (hiS a.w), .int .u64 (loN a.w)] := by simp [toC]
  rw [e]
  unfold Program.keyLits
  simp only [Tryz.underlying150, cells48, List.length_append, hl, List.length_cons, List.length_nil]
  rw [if_pos ⟨trivial, by kernel_rfl⟩]
  have e33 : ((B8 a.nm.1).toList ++ [Value.string (txt a.nm.2), Value.int .i64 (hiS a.w), Value.int .u64 (loN a.w)]).drop 33 = (wC a.w).toList := by
    rw [show (33 : Nat) = 32 + 1 from rfl, ← List.drop_drop, List.drop_left' hl]
    rfl
  have e2 : (wC a.w).toList.take 2 = (wC a.w).toList := rfl
  simp only [List.mapM_cons, List.mapM_nil, cells26, cells9, cells39, List.drop_zero, List.take_left' hl, List.drop_left' hl, e33, e2]
  rw [litsH d a.nm.1 h.1, lits_w d a.w]
  simp [litT, h.2, litT', litN, litW]
theorem formed_to (a : To) (h : a.nm.1.length = 32) : (Value.agg (toC a)).formed Tryz.prog 150 = true := by
  obtain ⟨⟨p, t⟩, x⟩ := a
  obtain ⟨a0, a1, a2, a3, a4, a5, a6, a7, a8, a9, a10, a11, a12, a13, a14, a15, a16, a17, a18, a19, a20, a21, a22, a23, a24, a25, a26, a27, a28, a29, a30, a31, rfl⟩ := list32 p h
  kernel_rfl
theorem eq_to (w : World) (a b : To) (ha : ToOk a) (hb : ToOk b) : (Op.equalIn 10000 150 (.agg (toC a)) (.agg (toC b))).run Tryz.prog w = .ok (decide (a = b)) w := by
  obtain ⟨r, hr, hi⟩ := run_equalIn_deep 9995 5 150 keyed_total w 5 5 (.agg (toC a)) (.agg (toC b)) _ _ (formed_to a ha.1) (formed_to b hb.1) (lits_to 2 a ha) (lits_to 2 b hb)
  have e : r = decide (a = b) := by
    rw [Bool.eq_iff_iff, decide_eq_true_iff, hi]
    exact ⟨litT_inj ha.1 hb.1, fun e => by rw [e]⟩
  rw [← e]
  exact hr
theorem eq_w (w : World) (a b : BitVec 128) : (Op.equalIn 10000 148 (.agg (wC a)) (.agg (wC b))).run Tryz.prog w = .ok (decide (a = b)) w := by
  have hf : ∀ x, (Value.agg (wC x)).formed Tryz.prog 148 = true := fun x => by kernel_rfl
  obtain ⟨r, hr, hi⟩ := run_equalIn_deep 9995 5 148 keyed_wide w 5 5 (.agg (wC a)) (.agg (wC b)) _ _ (hf a) (hf b) (lits_w 3 a) (lits_w 3 b)
  have e : r = decide (a = b) := by
    rw [Bool.eq_iff_iff, decide_eq_true_iff, hi]
    exact ⟨litW_inj, fun e => by rw [e]⟩
  rw [← e]
  exact hr
/-- Totals lie one behind the other. -/
def HasT (w : World) (g off : Nat) (l : List To) : Prop := ∀ (i : Nat) (a : To), l[i]? = some a → w.rangeAt g (off + i * 35) (toC a).toList
theorem HasT.below {B : Nat} {w w' : World} {g off : Nat} {l : List To} (h : HasT w g off l) (hb : Below B w w') (hg : g < B) : HasT w' g off l :=
  fun i a hi j v hv => (hb.cell (p := ⟨g, off + i * 35 + j, none⟩) hg).trans (h i a hi j v hv)
def RowT (w : World) (pa : Option Addr) (l : List To) : Prop := l.length ≤ maxLen ∧ (∀ a, a ∈ l → ToOk a) ∧ (0 < l.length → ∃ g off, pa = some ⟨g, off, none⟩ ∧ g < w.heap.size ∧ HasT w g off l)
theorem RowT.below {B : Nat} {w w' : World} {pa : Option Addr} {l : List To} (h : RowT w pa l) (hb : Below B w w') (hB : w.heap.size ≤ B) : RowT w' pa l :=
  ⟨h.1, h.2.1, fun hl => by
    obtain ⟨g, off, e, hg, hh⟩ := h.2.2 hl
    exact ⟨g, off, e, Nat.lt_of_lt_of_le hg hb.size, hh.below hb (Nat.lt_of_lt_of_le hg hB)⟩⟩
set_option maxHeartbeats 4000000 in
theorem sameT_any (w : World) (pa pb : Option Addr) (l m : List To) (c e : Nat) (hl : RowT w pa l) (hm : RowT w pb m) :
    Calls Tryz.prog 81 #[.slice pa l.length c, .slice pb m.length e] w fun e w' => e = .returned (.bool (decide (l = m))) ∧ Below w.heap.size w w' := by
  have hli : (l.length : Int) ≤ 9223372036854775807 := by have := hl.1; unfold maxLen at this; omega
  have hmi : (m.length : Int) ≤ 9223372036854775807 := by have := hm.1; unfold maxLen at this; omega
  have HS := Lib.hid (And.intro hl hm)
  clear hl hm
  by_cases hlen : l.length = m.length
  · rw [hlen]
    have HL := Lib.hid hlen
    clear hlen
    go_enter Tryz.func81, Tryz.ntmps81
    go_wp2_with fail
    go_loopw [5] (fun i W => ∃ k : Nat, k ≤ m.length ∧ i = .int .i64 k ∧ Below w.heap.size w W ∧ ∀ i, i < k → l[i]? = m[i]?) (fun i _ => m.length - (intOf i).toNat)
    case atStart => exact ⟨0, Nat.zero_le _, rfl, Below.refl _ _, fun i hi => absurd hi (by omega)⟩
    case round =>
      obtain ⟨k, hk, rfl, hb, hall⟩ := hrel
      have hlen := HL.out
      by_cases hlt : k < m.length
      · have m1 : (k : Int) < (m.length : Int) := by omega
        have m0 : (0 : Int) ≤ (k : Int) := by omega
        obtain ⟨g, off, rfl, hg, hh⟩ := HS.out.1.2.2 (by omega)
        obtain ⟨g', off', rfl, hg', hh'⟩ := HS.out.2.2.2 (by omega)
        obtain ⟨a, ha⟩ : ∃ a, a = l[k] := ⟨_, rfl⟩
        obtain ⟨b, hb'⟩ : ∃ b, b = m[k] := ⟨_, rfl⟩
        have hka : l[k]? = some a := by rw [ha, List.getElem?_eq_getElem (by omega)]
        have hkb : m[k]? = some b := by rw [hb', List.getElem?_eq_getElem hlt]
        have oka := HS.out.1.2.1 a (List.mem_of_getElem? hka)
        have okb := HS.out.2.2.1 b (List.mem_of_getElem? hkb)
        obtain ⟨va, hva⟩ : ∃ v, v = toC a := ⟨_, rfl⟩
        obtain ⟨vb, hvb⟩ : ∃ v, v = toC b := ⟨_, rfl⟩
        have hvs : va.size = 35 := by rw [hva]; exact toC_size a oka.1
        have hvt : vb.size = 35 := by rw [hvb]; exact toC_size b okb.1
        have heq : ∀ W, (Op.equalIn 10000 150 (.agg va) (.agg vb)).run Tryz.prog W = .ok (decide (a = b)) W := fun W => by rw [hva, hvb]; exact eq_to W a b oka okb
        have HR1 : Hid (∀ W, Below w.heap.size w W → W.rangeAt g (off + k * 35) va.toList ∧ W.rangeAt g' (off' + k * 35) vb.toList) := Lib.hid fun W hW => by
          rw [hva, hvb]
          exact ⟨(hh.below hW hg) k a hka, (hh'.below hW hg') k b hkb⟩
        have HR := Lib.hid (And.intro hb (And.intro hall (And.intro hlt (And.intro hka (And.intro hkb (And.intro hvs hvt))))))
        have HI := Lib.hid (And.intro (show (Tryz.prog.info? 150).map (·.size) = some va.size by rw [hvs]; exact info_total) (show (Tryz.prog.info? 150).map (·.size) = some vb.size by rw [hvt]; exact info_total))
        clear hlen hb hall hlt hk ha hb' hka hkb oka okb hva hvb hvs hvt hh hh' hg hg'
        go_upto_region 6 with fail
        refine wp_region_noPanic (wp_region_held (S := fun V => V.rangeAt g (off + k * 35) va.toList ∧ V.rangeAt g' (off' + k * 35) vb.toList) (by kernel_rfl) ?_)
        change wpAnyH _ _ _ _ _ 9 _ _ (World.drew wr)
        have hcur := HR1.out _ HR.out.1.drew
        have hbd : Below w.heap.size w wr.drew := HR.out.1.drew
        have HBD := Lib.hid hbd
        clear hbd
        by_cases hab : a = b
        · have hd : decide (a = b) = true := by simp [hab]
          have HAB := Lib.hid hab
          clear hab
          refine tk 0 (.slice (some ⟨g, off, none⟩) m.length c) 17 rfl rfl hcur ?_
          refine tk 1 (.int .i64 k) 18 rfl rfl hcur ?_
          refine tk 2 (.pointer (some ⟨g, off + k * 35, none⟩)) 19 rfl rfl hcur ?_ (by intro w' hS'; unfold execOp; simp [go_sem, m0, m1])
          refine tk 3 (.agg va) 20 rfl rfl hcur ?_ (by intro w' hS'; exact exec_loadM 150 _ rfl _ _ rfl va hS'.1 Tryz.underlying150 rfl HI.out.1)
          refine tk 4 (.slice (some ⟨g', off', none⟩) m.length e) 21 rfl rfl hcur ?_
          refine tk 5 (.int .i64 k) 22 rfl rfl hcur ?_
          refine tk 6 (.pointer (some ⟨g', off' + k * 35, none⟩)) 23 rfl rfl hcur ?_ (by intro w' hS'; unfold execOp; simp [go_sem, m0, m1])
          refine tk 7 (.agg vb) 24 rfl rfl hcur ?_ (by intro w' hS'; exact exec_loadM 150 _ rfl _ _ rfl vb hS'.2 Tryz.underlying150 rfl HI.out.2)
          refine tk 8 (.bool false) 25 rfl rfl hcur ?_ (by intro w' hS'; unfold execOp; simp [go_sem, heq, hd])
          refine wpAnyH_done (by kernel_rfl) ?_ _
          unfold NoPanic
          dsimp only
          clear hcur heq hd
          go_wp2_with fail
          have e1 : (k : Int) + 1 = ((k + 1 : Nat) : Int) := by omega
          rw [e1]
          refine ⟨⟨k + 1, HR.out.2.2.1, rfl, HBD.out, fun i hi => ?_⟩, ?_⟩
          · by_cases e : i = k
            · rw [e, HR.out.2.2.2.1, HR.out.2.2.2.2.1, HAB.out]
            · exact HR.out.2.1 i (by omega)
          · have h := HR.out.2.2.1
            show m.length - (k + 1) < m.length - k
            omega
        · have hd : decide (a = b) = false := by simp [hab]
          have HAB := Lib.hid (show l ≠ m from fun e => hab (by
            have h1 := HR.out.2.2.2.1
            rw [e, HR.out.2.2.2.2.1] at h1
            exact (Option.some.inj h1).symm))
          clear hab
          refine tk 0 (.slice (some ⟨g, off, none⟩) m.length c) 17 rfl rfl hcur ?_
          refine tk 1 (.int .i64 k) 18 rfl rfl hcur ?_
          refine tk 2 (.pointer (some ⟨g, off + k * 35, none⟩)) 19 rfl rfl hcur ?_ (by intro w' hS'; unfold execOp; simp [go_sem, m0, m1])
          refine tk 3 (.agg va) 20 rfl rfl hcur ?_ (by intro w' hS'; exact exec_loadM 150 _ rfl _ _ rfl va hS'.1 Tryz.underlying150 rfl HI.out.1)
          refine tk 4 (.slice (some ⟨g', off', none⟩) m.length e) 21 rfl rfl hcur ?_
          refine tk 5 (.int .i64 k) 22 rfl rfl hcur ?_
          refine tk 6 (.pointer (some ⟨g', off' + k * 35, none⟩)) 23 rfl rfl hcur ?_ (by intro w' hS'; unfold execOp; simp [go_sem, m0, m1])
          refine tk 7 (.agg vb) 24 rfl rfl hcur ?_ (by intro w' hS'; exact exec_loadM 150 _ rfl _ _ rfl vb hS'.2 Tryz.underlying150 rfl HI.out.2)
          refine tk 8 (.bool true) 25 rfl rfl hcur ?_ (by intro w' hS'; unfold execOp; simp [go_sem, heq, hd])
          refine wpAnyH_done (by kernel_rfl) ?_ _
          unfold NoPanic
          dsimp only
          clear hcur heq hd
          go_wp2_with fail
          go_ret
          refine ⟨?_, HBD.out⟩
          rw [decide_eq_false HAB.out]
          rfl
      · have e1 : k = m.length := by omega
        have HF := Lib.hid (And.intro hb (show l = m from List.ext_getElem? fun i => by
          by_cases hi : i < k
          · exact hall i hi
          · rw [List.getElem?_eq_none (by omega), List.getElem?_eq_none (by omega)]))
        have m1 : ¬ (k : Int) < (m.length : Int) := by omega
        clear hb hall e1 hk hlt hlen
        go_wp2_with fail
        go_ret
        refine ⟨?_, HF.out.1⟩
        rw [decide_eq_true HF.out.2]
        rfl
  · have hne : ¬ (l.length : Int) = (m.length : Int) := by omega
    have HN := Lib.hid (show l ≠ m from fun e => hlen (by rw [e]))
    clear hlen
    go_enter Tryz.func81, Tryz.ntmps81
    go_wp2_with fail
    go_ret
    refine ⟨?_, Below.refl _ _⟩
    rw [decide_eq_false HN.out]
    rfl
end Go.Proofs.YtilbbemdinpjcaaGreat
namespace Go.Proofs.YtilbbemdinpjcaaGreat
set_option maxRecDepth 100000
open Go.RowKit Go.Sort Go.Maps

theorem laidOut : laidOutB Tryz.prog = true := by kernel_rfl
theorem row68 : (255 : TypeId) < Tryz.prog.types.size := of_decide_eq_true (by kernel_rfl)
theorem wide68 : (match Tryz.prog.underlying 255 with | some (.array _ _) | some (.struct _) => true | _ => false) = true := by rw [Tryz.underlying255]
theorem keyedName : Keyed Tryz.prog 255 := Keyed.of_law (deep_law_laid laidOut (m := 5) (by omega) row68 keyed_called wide68)
/-- What a name reads as, as a key. -/
def kN (n : Nm) : Lit := .string (keyBytes (litN n))
theorem key_nm (n : Nm) (h : n.1.length = 32) (ht : n.2.length ≤ maxLen) : keyOf Tryz.prog 255 (.agg (nmC n)) = some (kN n) := by
  obtain ⟨d, hd⟩ : ∃ d, Tryz.prog.types.size + 1 = d + 3 := ⟨Tryz.prog.types.size - 2, by have : 2 ≤ Tryz.prog.types.size := of_decide_eq_true (by kernel_rfl); omega⟩
  have hk : Tryz.prog.keyType 255 = true := by kernel_rfl
  unfold keyOf
  rw [Tryz.underlying255]
  simp only [hk, formed_nm n h, Bool.and_self, if_true, hd]
  rw [show (Value.agg (nmC n)).cells.toList = (nmC n).toList from rfl, lits_nm d n h ht]
  rfl
theorem kN_inj {a b : Nm} (ha : a.1.length = 32) (hb : b.1.length = 32) (ta : a.2.length ≤ maxLen) (tb : b.2.length ≤ maxLen) (h : kN a = kN b) : a = b := by
  unfold kN at h
  have h1 := keyLits_inj (lits_nm 0 a ha ta) (lits_nm 0 b hb tb) (by simpa using h)
  exact litN_inj ha hb h1
/-- How a sum reads. -/
noncomputable def rdW (v : Value) : Option (DataW Unit × List MemPlace) := open Classical in if h : ∃ x, v = wv x then some (.lit (.int .u64 (Classical.choose h).toNat), []) else none
def dW (x : BitVec 128) : DataW Unit := .lit (.int .u64 x.toNat)
theorem rdW_wv (x : BitVec 128) : rdW (wv x) = some (dW x, []) := by
  have h : ∃ y, wv x = wv y := ⟨x, rfl⟩
  unfold rdW
  rw [dif_pos h, ← wv_inj (Classical.choose_spec h)]
  rfl
theorem dW_inj {x y : BitVec 128} (h : dW x = dW y) : x = y := by
  unfold dW at h
  simp only [DataW.lit.injEq, Lit.int.injEq, true_and] at h
  exact BitVec.eq_of_toNat_eq (by omega)
theorem rdW_inv {v : Value} {x : BitVec 128} {ps : List MemPlace} (h : rdW v = some (dW x, ps)) : v = wv x := by
  unfold rdW at h
  split at h
  · rename_i hh
    have e := Classical.choose_spec hh
    simp only [Option.some.injEq, Prod.mk.injEq] at h
    rw [e, dW_inj (x := Classical.choose hh) h.1]
  · cases h
/-- The map holds f: what has no entry has 0. -/
def HoldsF (D : DataW Unit) (f : Nm → BitVec 128) : Prop := ∀ n : Nm, n.1.length = 32 → n.2.length ≤ maxLen → D.atKey (kN n) (dW 0) = dW (f n)
def addAt (f : Nm → BitVec 128) (n : Nm) (x : BitVec 128) : Nm → BitVec 128 := fun m => if m = n then f n + x else f m
theorem HoldsF.put {D : DataW Unit} {f : Nm → BitVec 128} (h : HoldsF D f) (hD : IsMap D) (n : Nm) (x : BitVec 128) (hn : n.1.length = 32) (ht : n.2.length ≤ maxLen) : HoldsF (D.put (kN n) (dW (f n + x))) (addAt f n x) := fun m hm hmt => by
  unfold addAt
  by_cases e : m = n
  · subst e
    have hkk : WideAt.IsKeyLit (kN m) := trivial
    rw [atKey_put_same hD hkk]
    simp
  · rw [atKey_put_other (fun k => e (kN_inj hm hn hmt ht k)), h m hm hmt]
    simp [e]
theorem zeroW (w : World) : (zeroValue 148).run Tryz.prog w = .ok (wv 0) w := by
  rw [wv_zero]
  kernel_rfl
end Go.Proofs.YtilbbemdinpjcaaGreat
namespace Go.Proofs.YtilbbemdinpjcaaGreat
set_option maxRecDepth 100000
open Go.RowKit Go.Sort Go.Maps

theorem grown_of {w w' : World} {r : Option Nat} (h : Below w.heap.size w w') : w.grownBy w' r := ⟨h.1, h.2, h.3, h.size, fun i hi _ => h.block i hi⟩
theorem grown_trans {w w' w'' : World} {r : Option Nat} (h : w.grownBy w' r) (k : w'.grownBy w'' r) : w.grownBy w'' r :=
  ⟨k.os.trans h.os, k.tape.trans h.tape, k.output.trans h.output, Nat.le_trans h.size k.size, fun i hi hr => (k.block i (Nat.lt_of_lt_of_le hi h.size) hr).trans (h.block i hi hr)⟩
/-- The map has turned to D', nothing else that was there has. -/
def PutW (w w' : World) (b n : Nat) (D' : DataW Unit) : Prop := w'.ownsMap Tryz.prog 255 rdW b n D' ∧ w.grownBy w' (some b)
theorem wpOp_mapU {P : Program} {ops : Array Oper} {Q : Exit → Act → World → Prop} {i : Nat} {o : Oper} {a : Act} {w w' : World} {K : Act → World → Prop} (hi : ops[i]? = some o) (hg : o.guard = none) (m x v : Operand) (t : TypeId) (hop : o.op = Op.mapUpdate t m x v)
    (hrun : (Instr.mapUpdate t (a.eval m) (a.eval x) (a.eval v)).run P w = .ok () w') (h : K (a.put o.dst undef) w') : wpOp P ops Q i K a w := by
  refine wpOp_wp hi hg ?_
  unfold Oper.wp
  simp [execOp, hop, hrun, Result.andThen]
  exact h
end Go.Proofs.YtilbbemdinpjcaaGreat
namespace Go.Proofs.YtilbbemdinpjcaaGreat
set_option maxRecDepth 100000
open Go.RowKit Go.Sort Go.Maps

/-- What a bundle, what bundles have of each name. -/
def ctsOf (v : Va) : List Ct := v.l.map fun a => (a.nm, wide a.amt)
def ctsL (vs : List Va) : List Ct := vs.flatMap ctsOf
def coinS (vs : List Va) : BitVec 128 := sumL (vs.map fun v => wide v.coin)
theorem addAt_sumAt (L : List Ct) (n : Nm) (x : BitVec 128) : addAt (sumAt L) n x = sumAt (L ++ [(n, x)]) := by
  funext m
  rw [sumAt_append]
  unfold addAt
  by_cases h : m = n
  · subst h
    simp [sumAt]
  · rw [if_neg h]
    have : ¬ n = m := fun e => h e.symm
    simp [sumAt, this]
theorem ctsL_take {vs : List Va} {k : Nat} {v : Va} (h : vs[k]? = some v) : ctsL (vs.take (k + 1)) = ctsL (vs.take k) ++ ctsOf v := by
  unfold ctsL
  rw [List.take_add_one, h, List.flatMap_append]
  simp
theorem ctsOf_take {v : Va} {j : Nat} {a : As} (h : v.l[j]? = some a) : (ctsOf v).take (j + 1) = (ctsOf v).take j ++ [(a.nm, wide a.amt)] := by
  unfold ctsOf
  rw [List.take_add_one, List.getElem?_map, h]
  rfl
theorem coinS_take {vs : List Va} {k : Nat} {v : Va} (h : vs[k]? = some v) : coinS (vs.take (k + 1)) = coinS (vs.take k) + wide v.coin := by
  unfold coinS
  rw [List.take_add_one, h, List.map_append]
  unfold sumL
  rw [List.foldl_append]
  rfl
theorem ctsL_le {vs : List Va} {k : Nat} {v : Va} {j : Nat} (h : vs[k]? = some v) (hj : j ≤ v.l.length) : (ctsL (vs.take k) ++ (ctsOf v).take j).length ≤ (ctsL vs).length := by
  have h1 : ctsL vs = ctsL (vs.take (k + 1)) ++ ctsL (vs.drop (k + 1)) := by
    unfold ctsL
    rw [← List.flatMap_append, List.take_append_drop]
  rw [h1, ctsL_take h]
  simp [ctsOf]
  omega
/-- A row that is new. -/
def Fresh (B : Nat) (pa : Option Addr) : Prop := ∀ a, pa = some a → B ≤ a.block
/-- A row that is told: none, or in a block of so much room, from B on. -/
def RoomT (B : Nat) (w : World) (pa : Option Addr) (n c : Nat) : Prop := (pa = none ∧ n = 0 ∧ c = 0) ∨ ∃ g, pa = some ⟨g, 0, none⟩ ∧ n ≤ c ∧ c ≤ maxLen ∧ B ≤ g ∧ ∃ cs, Lies w g cs 150 ∧ cs.size = c * 35
theorem RoomT.mono {B B' : Nat} {w : World} {pa : Option Addr} {n c : Nat} (h : RoomT B w pa n c) (hb : B' ≤ B) : RoomT B' w pa n c := by
  rcases h with h | ⟨g, h1, h2, h3, h4, h5⟩
  · exact .inl h
  · exact .inr ⟨g, h1, h2, h3, Nat.le_trans hb h4, h5⟩
theorem RoomT.below {B : Nat} {w u : World} {pa : Option Addr} {n c : Nat} (h : RoomT B w pa n c) (hb : Below w.heap.size w u) : RoomT B u pa n c := by
  rcases h with h | ⟨g, h1, h2, h3, h4, cs, h5, h6⟩
  · exact .inl h
  · exact .inr ⟨g, h1, h2, h3, h4, cs, h5.below hb h5.lt, h6⟩
theorem RoomT.setRow {B : Nat} {w : World} {pa : Option Addr} {n c : Nat} (h : RoomT B w pa n c) {b : Nat} (hb : b < B) (cs' : Array Value) : RoomT B (w.setRow b cs') pa n c := by
  rcases h with h | ⟨g, h1, h2, h3, h4, cs, h5, h6⟩
  · exact .inl h
  · exact .inr ⟨g, h1, h2, h3, h4, cs, h5.setRowOther _ _ (by omega), h6⟩
/-- The totals of f, in a row. -/
def TotRes (f : Nm → BitVec 128) (W : World) (e : Ending) (w' : World) : Prop := ∃ pa l c, e = .returned (.slice pa l.length c) ∧ RowT w' pa l ∧ IsTot f (l.map fun t => (t.nm, t.w)) ∧ Below W.heap.size W w' ∧ Fresh W.heap.size pa ∧ RoomT W.heap.size w' pa l.length c
/-- A world on the way: the old memory, the result's cell, the map, the sum of the numbers. -/
structure OnWay (w W : World) (s : BitVec 128) (L : List Ct) : Prop where
  below : Below w.heap.size w W
  res : Lies W w.heap.size #[.int .i64 0, .int .u64 0] 148
  map : ∃ D, W.ownsMap Tryz.prog 255 rdW (w.heap.size + 1) L.length D ∧ HoldsF D (sumAt L)
  sum : Lies W (w.heap.size + 1 + 1) (wC s) 148
theorem OnWay.sumTo {w W : World} {s : BitVec 128} {L : List Ct} (h : OnWay w W s L) (x : BitVec 128) : OnWay w (W.setRow (w.heap.size + 1 + 1) (wC x)) x L := by
  obtain ⟨D, h1, h2⟩ := h.map
  exact ⟨below_setRow h.below _ _ (by omega), h.res.setRowOther _ _ (by omega), ⟨D, h1.kept (row := some (w.heap.size + 1 + 1)) ⟨rfl, rfl, rfl, by simp, fun k _ hk => setRow_other W _ k _ (fun e => hk (by rw [e]))⟩ (by simp), h2⟩, h.sum.setRow _⟩
theorem wpOp_storeRow {P : Program} {ops : Array Oper} {Q : Exit → Act → World → Prop} {i : Nat} {o : Oper} {a : Act} {w : World} {K : Act → World → Prop} (hi : ops[i]? = some o) (hgd : o.guard = none) (ty : TypeId) (x y : Operand) (ho : o.op = .store ty x y)
    (g : Nat) (cells : Array Value) (hx : a.eval x = .pointer (some ⟨g, 0, none⟩)) (hy : a.eval y = .agg cells) (t : TypeId) (old : Array Value) (hg : w.heap[g]? = some (.cells old t (0, 0))) (hs : (P.info? ty).map (·.size) = some cells.size)
    (hold : old.size = cells.size) (h1 : cells.all (·.oneCell') = true) (h : K (a.put o.dst undef) (w.setRow g cells)) : wpOp P ops Q i K a w :=
  wpOp_wp hi hgd (wp_store_row ty x y ho g cells hx hy t old hg hs hold h1 h)
theorem sumAt_mem : ∀ {L : List Ct} {m : Nm}, sumAt L m ≠ 0 → ∃ p, p ∈ L ∧ p.1 = m
  | [], m, h => absurd rfl h
  | p :: L, m, h => by
    by_cases e : p.1 = m
    · exact ⟨p, by simp, e⟩
    · have h2 : sumAt L m ≠ 0 := fun e2 => h (by simp [sumAt, e, e2])
      obtain ⟨q, hq, e3⟩ := sumAt_mem h2
      exact ⟨q, by simp [hq], e3⟩
theorem results_row_tmp {P : Program} {fn : Func} {p u : Tmp} {ty : TypeId} (h : fn.results = #[.cell p ty, .tmp u]) (tmps : Array Value) (w : World) (g : Nat) (t : TypeId) (cs : Array Value) (fr : Nat × Nat) (d : TypeDesc)
    (hp : tmps.getD p undef = .pointer (some ⟨g, 0, none⟩)) (hg : w.heap[g]? = some (.cells cs t fr))
    (hu : P.underlying ty = some d) (hd : (match d with | .struct _ | .array _ _ => true | _ => false) = true) (hi : (P.info? ty).map (·.size) = some cs.size) :
    (results fn tmps).run P w = .ok (.tuple #[.agg cs, tmps.getD u undef]) w := by
  have hp' : tmps[p]?.getD undef = .pointer (some ⟨g, 0, none⟩) := by simpa using hp
  simp [results, h, hp', asAddr, run_loadVar_row w g t ty cs fr d hg hu hd hi]
theorem HoldsF.none : HoldsF (.map []) (sumAt []) := fun _ _ _ => rfl
theorem OnWay.step {w W W' : World} {s : BitVec 128} {L : List Ct} (h : OnWay w W s L) (hb : Below W.heap.size W W') : OnWay w W' s L := by
  obtain ⟨D, h1, h2⟩ := h.map
  exact ⟨h.below.trans (hb.mono h.below.size), h.res.below hb h.res.lt, ⟨D, h1.kept (grown_of (r := none) hb) (by simp), h2⟩, h.sum.below hb h.sum.lt⟩
theorem OnWay.put {w W W' : World} {s : BitVec 128} {L : List Ct} (h : OnWay w W s L) {D : DataW Unit} (hf : HoldsF D (sumAt L)) (hD : IsMap D) (n : Nm) (x : BitVec 128) (hn : n.1.length = 32) (ht : n.2.length ≤ maxLen)
    (hp : PutW W W' (w.heap.size + 1) (L.length + 1) (D.put (kN n) (dW (sumAt L n + x)))) : OnWay w W' s (L ++ [(n, x)]) := by
  obtain ⟨h1, h2⟩ := hp
  have hb : Below w.heap.size W W' := ⟨h2.os, h2.tape, h2.output, h2.size, fun i hi => h2.block i (Nat.lt_of_lt_of_le hi h.below.size) (by simp; omega)⟩
  refine ⟨h.below.trans hb, (h2.block _ h.res.lt (by simp)).trans h.res, ⟨D.put (kN n) (dW (sumAt L n + x)), ?_, ?_⟩, (h2.block _ h.sum.lt (by simp)).trans h.sum⟩
  · rw [List.length_append]; exact h1
  · rw [← addAt_sumAt]; exact hf.put hD n x hn ht
def SumsRes (vs : List Va) (w' : World) (e : Ending) : Prop := ∃ p l c', e = .returned (.tuple #[wv (coinS vs), .slice p l.length c']) ∧ RowT w' p l ∧ IsTot (sumAt (ctsL vs)) (l.map fun t => (t.nm, t.w))
/-- The same, the row being new. -/
def SumsResR (vs : List Va) (B : Nat) (w' : World) (e : Ending) : Prop := ∃ p l c', e = .returned (.tuple #[wv (coinS vs), .slice p l.length c']) ∧ RowT w' p l ∧ IsTot (sumAt (ctsL vs)) (l.map fun t => (t.nm, t.w)) ∧ Fresh B p ∧ RoomT B w' p l.length c'
def SumsResF (vs : List Va) (B : Nat) (w' : World) (e : Ending) : Prop := ∃ p l c', e = .returned (.tuple #[wv (coinS vs), .slice p l.length c']) ∧ RowT w' p l ∧ IsTot (sumAt (ctsL vs)) (l.map fun t => (t.nm, t.w)) ∧ Fresh B p
end Go.Proofs.YtilbbemdinpjcaaGreat
