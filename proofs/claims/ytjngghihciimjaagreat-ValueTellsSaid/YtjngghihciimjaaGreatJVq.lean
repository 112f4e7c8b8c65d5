/-
  Are two rows of totals the same?
  How much work is it? Some number comes back, and nothing old turns.
  Bundles that are not right are refused, with a panic of the code's number.
  A map of sums by name: what it holds, what a store leaves.
-/
import Derived.Test.YtjngghihciimjaaGreatJVt
import Derived.DeepKeys4
import Derived.Maps.OwnSet
import Derived.Maps.Views
namespace Go.Proofs.YtjngghihciimjaaGreat
set_option maxRecDepth 100000
open Go.RowKit Go.Sort

theorem To.ext_iff' (a b : To) : a = b ↔ a.nm = b.nm ∧ a.w = b.w := by
  constructor
  · rintro rfl; exact ⟨rfl, rfl⟩
  · rintro ⟨h, k⟩; cases a; cases b; simp only at h k; rw [h, k]
instance : DecidableEq To := fun a b => decidable_of_iff _ (To.ext_iff' a b).symm
def litT' (a : To) : List Lit := litN a.nm ++ litW a.w
theorem litT_inj {a b : To} (ha : a.nm.1.length = 32) (hb : b.nm.1.length = 32) (h : litT' a = litT' b) : a = b := by
  unfold litT' at h
  have := List.append_inj h (by simp [litN, ha, hb])
  exact (To.ext_iff' a b).2 ⟨litN_inj ha hb this.1, litW_inj this.2⟩
theorem lits_to (d : Nat) (a : To) (h : ToOk a) : Tryz.prog.keyLits (d + 3) 75 (toC a).toList = some (litT' a) := by
  have hl : (B8 a.nm.1).toList.length = 32 := by rw [Array.length_toList, B8_size, h.1]
  have e : (toC a).toList = (B8 a.nm.1).toList ++ [.string (txt a.nm.2), .int .i64 (hiS a.w), .int .u64 (loN a.w)] := by simp [toC]
  rw [e]
  unfold Program.keyLits
  simp only [Tryz.underlying75, cells48, List.length_append, hl, List.length_cons, List.length_nil]
  rw [if_pos ⟨trivial, by kernel_rfl⟩]
  have e33 : ((B8 a.nm.1).toList ++ [Value.string (txt a.nm.2), Value.int .i64 (hiS a.w), Value.int .u64 (loN a.w)]).drop 33 = (wC a.w).toList := by
    rw [show (33 : Nat) = 32 + 1 from rfl, ← List.drop_drop, List.drop_left' hl]
    rfl
  have e2 : (wC a.w).toList.take 2 = (wC a.w).toList := rfl
  simp only [List.mapM_cons, List.mapM_nil, cells26, cells9, cells39, List.drop_zero, List.take_left' hl, List.drop_left' hl, e33, e2]
  rw [litsH d a.nm.1 h.1, lits_w d a.w]
  simp [litT, h.2, litT', litN, litW]
theorem formed_to (a : To) (h : a.nm.1.length = 32) : (Value.agg (toC a)).formed Tryz.prog 75 = true := by
  obtain ⟨⟨p, t⟩, x⟩ := a
  obtain ⟨a0, a1, a2, a3, a4, a5, a6, a7, a8, a9, a10, a11, a12, a13, a14, a15, a16, a17, a18, a19, a20, a21, a22, a23, a24, a25, a26, a27, a28, a29, a30, a31, rfl⟩ := list32 p h
  kernel_rfl
theorem eq_to (w : World) (a b : To) (ha : ToOk a) (hb : ToOk b) : (Op.equalIn 10000 75 (.agg (toC a)) (.agg (toC b))).run Tryz.prog w = .ok (decide (a = b)) w := by
  obtain ⟨r, hr, hi⟩ := run_equalIn_deep 9995 5 75 keyed_total w 5 5 (.agg (toC a)) (.agg (toC b)) _ _ (formed_to a ha.1) (formed_to b hb.1) (lits_to 2 a ha) (lits_to 2 b hb)
  have e : r = decide (a = b) := by
    rw [Bool.eq_iff_iff, decide_eq_true_iff, hi]
    exact ⟨litT_inj ha.1 hb.1, fun e => by rw [e]⟩
  rw [← e]
  exact hr
theorem eq_w (w : World) (a b : BitVec 128) : (Op.equalIn 10000 48 (.agg (wC a)) (.agg (wC b))).run Tryz.prog w = .ok (decide (a = b)) w := by
  have hf : ∀ x, (Value.agg (wC x)).formed Tryz.prog 48 = true := fun x => by kernel_rfl
  obtain ⟨r, hr, hi⟩ := run_equalIn_deep 9995 5 48 keyed_wide w 5 5 (.agg (wC a)) (.agg (wC b)) _ _ (hf a) (hf b) (lits_w 3 a) (lits_w 3 b)
  have e : r = decide (a = b) := by
    rw [Bool.eq_iff_iff, decide_eq_true_iff, hi]
    exact ⟨litW_inj, fun e => by rw [e]⟩
  rw [← e]
  exact hr
/-- Totals lie one behind the other. -/
def HasT (w : World) (g off : Nat) (l : List To) : Prop := ∀ (i : Nat) (a : To), l[i]? = some a → w.rangeAt g (off + i * 35) (toC a).toList
theorem HasT.below {B : Nat} {w w' : World} {g off : Nat} {l : List To} (h : HasT w g off l) (hb : Below B w w') (hg : g < B) : HasT w' g off l :=
  fun i a hi j v hv => (hb.cell (p := ⟨g, off + i * 35 + j, none⟩) hg).trans (h i a hi j v hv)
def RowT (w : World) (pa : Option Addr) (l : List To) : Prop := l.length ≤ maxLen ∧ (∀ a, a ∈ l → ToOk a) ∧ (0 < l.length → ∃ g off, pa = some ⟨g, off, none⟩ ∧ g < w.heap.size ∧ HasT w g off l)
theorem RowT.below {B : Nat} {w w' : World} {pa : Option Addr} {l : List To} (h : RowT w pa l) (hb : Below B w w') (hB : w.heap.size ≤ B) : RowT w' pa l :=
  ⟨h.1, h.2.1, fun hl => by
    obtain ⟨g, off, e, hg, hh⟩ := h.2.2 hl
    exact ⟨g, off, e, Nat.lt_of_lt_of_le hg hb.size, hh.below hb (Nat.lt_of_lt_of_le hg hB)⟩⟩
set_option maxHeartbeats 4000000 in
theorem sameT_any (w : World) (pa pb : Option Addr) (l m : List To) (c e : Nat) (hl : RowT w pa l) (hm : RowT w pb m) :
    Calls Tryz.prog 28 #[.slice pa l.length c, .slice pb m.length e] w fun e w' => e = .returned (.bool (decide (l = m))) ∧ Below w.heap.size w w' := by
  have hli : (l.length : Int) ≤ 9223372036854775807 := by have := hl.1; unfold maxLen at this; omega
  have hmi : (m.length : Int) ≤ 9223372036854775807 := by have := hm.1; unfold maxLen at this; omega
  have HS := Lib.hid (And.intro hl hm)
  clear hl hm
  by_cases hlen : l.length = m.length
  · rw [hlen]
    have HL := Lib.hid hlen
    clear hlen
    go_enter Tryz.func28, Tryz.ntmps28
    go_wp2_with fail
    go_loopw [5] (fun i W => ∃ k : Nat, k ≤ m.length ∧ i = .int .i64 k ∧ Below w.heap.size w W ∧ ∀ i, i < k → l[i]? = m[i]?) (fun i _ => m.length - (intOf i).toNat)
    case atStart => exact ⟨0, Nat.zero_le _, rfl, Below.refl _ _, fun i hi => absurd hi (by omega)⟩
    case round =>
      obtain ⟨k, hk, rfl, hb, hall⟩ := hrel
      have hlen := HL.out
      by_cases hlt : k < m.length
      · have m1 : (k : Int) < (m.length : Int) := by omega
        have m0 : (0 : Int) ≤ (k : Int) := by omega
        obtain ⟨g, off, rfl, hg, hh⟩ := HS.out.1.2.2 (by omega)
        obtain ⟨g', off', rfl, hg', hh'⟩ := HS.out.2.2.2 (by omega)
        obtain ⟨a, ha⟩ : ∃ a, a = l[k] := ⟨_, rfl⟩
        obtain ⟨b, hb'⟩ : ∃ b, b = m[k] := ⟨_, rfl⟩
        have hka : l[k]? = some a := by rw [ha, List.getElem?_eq_getElem (by omega)]
        have hkb : m[k]? = some b := by rw [hb', List.getElem?_eq_getElem hlt]
        have oka := HS.out.1.2.1 a (List.mem_of_getElem? hka)
        have okb := HS.out.2.2.1 b (List.mem_of_getElem? hkb)
        obtain ⟨va, hva⟩ : ∃ v, v = toC a := ⟨_, rfl⟩
        obtain ⟨vb, hvb⟩ : ∃ v, v = toC b := ⟨_, rfl⟩
        have hvs : va.size = 35 := by rw [hva]; exact toC_size a oka.1
        have hvt : vb.size = 35 := by rw [hvb]; exact toC_size b okb.1
        have heq : ∀ W, (Op.equalIn 10000 75 (.agg va) (.agg vb)).run Tryz.prog W = .ok (decide (a = b)) W := fun W => by rw [hva, hvb]; exact eq_to W a b oka okb
        have HR1 : Hid (∀ W, Below w.heap.size w W → W.rangeAt g (off + k * 35) va.toList ∧ W.rangeAt g' (off' + k * 35) vb.toList) := Lib.hid fun W hW => by
          rw [hva, hvb]
          exact ⟨(hh.below hW hg) k a hka, (hh'.below hW hg') k b hkb⟩
        have HR := Lib.hid (And.intro hb (And.intro hall (And.intro hlt (And.intro hka (And.intro hkb (And.intro hvs hvt))))))
        have HI := Lib.hid (And.intro (show (Tryz.prog.info? 75).map (·.size) = some va.size by rw [hvs]; exact info_total) (show (Tryz.prog.info? 75).map (·.size) = some vb.size by rw [hvt]; exact info_total))
        clear hlen hb hall hlt hk ha hb' hka hkb oka okb hva hvb hvs hvt hh hh' hg hg'
        go_upto_region 6 with fail
        refine wp_region_noPanic (wp_region_held (S := fun V => V.rangeAt g (off + k * 35) va.toList ∧ V.rangeAt g' (off' + k * 35) vb.toList) (by kernel_rfl) ?_)
        change wpAnyH _ _ _ _ _ 9 _ _ (World.drew wr)
        have hcur := HR1.out _ HR.out.1.drew
        have hbd : Below w.heap.size w wr.drew := HR.out.1.drew
        have HBD := Lib.hid hbd
        clear hbd
        by_cases hab : a = b
        · have hd : decide (a = b) = true := by simp [hab]
          have HAB := Lib.hid hab
          clear hab
          refine held_take (i := 0) (v := (.slice (some ⟨g, off, none⟩) m.length c)) rfl 17 rfl (by kernel_rfl) (by kernel_rfl) (by kernel_rfl) (fun _ _ _ h => h) (by rfl) (by intro w' hS'; unfold execOp; simp [go_sem]) hcur _ rfl ?_
          simp only [Act.put, List.setIfInBounds_toArray, List.set_cons_zero, List.set_cons_succ]
          refine held_take (i := 1) (v := (.int .i64 k)) rfl 18 rfl (by kernel_rfl) (by kernel_rfl) (by kernel_rfl) (fun _ _ _ h => h) (by rfl) (by intro w' hS'; unfold execOp; simp [go_sem]) hcur _ rfl ?_
          simp only [Act.put, List.setIfInBounds_toArray, List.set_cons_zero, List.set_cons_succ]
          refine held_take (i := 2) (v := (.pointer (some ⟨g, off + k * 35, none⟩))) rfl 19 rfl (by kernel_rfl) (by kernel_rfl) (by kernel_rfl) (fun _ _ _ h => h) (by rfl) (by intro w' hS'; unfold execOp; simp [go_sem, m0, m1]) hcur _ rfl ?_
          simp only [Act.put, List.setIfInBounds_toArray, List.set_cons_zero, List.set_cons_succ]
          refine held_take (i := 3) (v := (.agg va)) rfl 20 rfl (by kernel_rfl) (by kernel_rfl) (by kernel_rfl) (fun _ _ _ h => h) (by rfl) (by intro w' hS'; exact exec_loadM 75 _ rfl _ _ rfl va hS'.1 Tryz.underlying75 rfl HI.out.1) hcur _ rfl ?_
          simp only [Act.put, List.setIfInBounds_toArray, List.set_cons_zero, List.set_cons_succ]
          refine held_take (i := 4) (v := (.slice (some ⟨g', off', none⟩) m.length e)) rfl 21 rfl (by kernel_rfl) (by kernel_rfl) (by kernel_rfl) (fun _ _ _ h => h) (by rfl) (by intro w' hS'; unfold execOp; simp [go_sem]) hcur _ rfl ?_
          simp only [Act.put, List.setIfInBounds_toArray, List.set_cons_zero, List.set_cons_succ]
          refine held_take (i := 5) (v := (.int .i64 k)) rfl 22 rfl (by kernel_rfl) (by kernel_rfl) (by kernel_rfl) (fun _ _ _ h => h) (by rfl) (by intro w' hS'; unfold execOp; simp [go_sem]) hcur _ rfl ?_
          simp only [Act.put, List.setIfInBounds_toArray, List.set_cons_zero, List.set_cons_succ]
          refine held_take (i := 6) (v := (.pointer (some ⟨g', off' + k * 35, none⟩))) rfl 23 rfl (by kernel_rfl) (by kernel_rfl) (by kernel_rfl) (fun _ _ _ h => h) (by rfl) (by intro w' hS'; unfold execOp; simp [go_sem, m0, m1]) hcur _ rfl ?_
          simp only [Act.put, List.setIfInBounds_toArray, List.set_cons_zero, List.set_cons_succ]
          refine held_take (i := 7) (v := (.agg vb)) rfl 24 rfl (by kernel_rfl) (by kernel_rfl) (by kernel_rfl) (fun _ _ _ h => h) (by rfl) (by intro w' hS'; exact exec_loadM 75 _ rfl _ _ rfl vb hS'.2 Tryz.underlying75 rfl HI.out.2) hcur _ rfl ?_
          simp only [Act.put, List.setIfInBounds_toArray, List.set_cons_zero, List.set_cons_succ]
          refine held_take (i := 8) (v := (.bool false)) rfl 25 rfl (by kernel_rfl) (by kernel_rfl) (by kernel_rfl) (fun _ _ _ h => h) (by rfl) (by intro w' hS'; unfold execOp; simp [go_sem, heq, hd]) hcur _ rfl ?_
          simp only [Act.put, List.setIfInBounds_toArray, List.set_cons_zero, List.set_cons_succ]
          refine wpAnyH_done (by kernel_rfl) ?_ _
          unfold NoPanic
          dsimp only
          clear hcur heq hd
          go_wp2_with fail
          have e1 : (k : Int) + 1 = ((k + 1 : Nat) : Int) := by omega
          rw [e1]
          refine ⟨⟨k + 1, HR.out.2.2.1, rfl, HBD.out, fun i hi => ?_⟩, ?_⟩
          · by_cases e : i = k
            · rw [e, HR.out.2.2.2.1, HR.out.2.2.2.2.1, HAB.out]
            · exact HR.out.2.1 i (by omega)
          · have h := HR.out.2.2.1
            show m.length - (k + 1) < m.length - k
            omega
        · have hd : decide (a = b) = false := by simp [hab]
          have HAB := Lib.hid (show l ≠ m from fun e => hab (by
            have h1 := HR.out.2.2.2.1
            rw [e, HR.out.2.2.2.2.1] at h1
            exact (Option.some.inj h1).symm))
          clear hab
          refine held_take (i := 0) (v := (.slice (some ⟨g, off, none⟩) m.length c)) rfl 17 rfl (by kernel_rfl) (by kernel_rfl) (by kernel_rfl) (fun _ _ _ h => h) (by rfl) (by intro w' hS'; unfold execOp; simp [go_sem]) hcur _ rfl ?_
          simp only [Act.put, List.setIfInBounds_toArray, List.set_cons_zero, List.set_cons_succ]
          refine held_take (i := 1) (v := (.int .i64 k)) rfl 18 rfl (by kernel_rfl) (by kernel_rfl) (by kernel_rfl) (fun _ _ _ h => h) (by rfl) (by intro w' hS'; unfold execOp; simp [go_sem]) hcur _ rfl ?_
          simp only [Act.put, List.setIfInBounds_toArray, List.set_cons_zero, List.set_cons_succ]
          refine held_take (i := 2) (v := (.pointer (some ⟨g, off + k * 35, none⟩))) rfl 19 rfl (by kernel_rfl) (by kernel_rfl) (by kernel_rfl) (fun _ _ _ h => h) (by rfl) (by intro w' hS'; unfold execOp; simp [go_sem, m0, m1]) hcur _ rfl ?_
          simp only [Act.put, List.setIfInBounds_toArray, List.set_cons_zero, List.set_cons_succ]
          refine held_take (i := 3) (v := (.agg va)) rfl 20 rfl (by kernel_rfl) (by kernel_rfl) (by kernel_rfl) (fun _ _ _ h => h) (by rfl) (by intro w' hS'; exact exec_loadM 75 _ rfl _ _ rfl va hS'.1 Tryz.underlying75 rfl HI.out.1) hcur _ rfl ?_
          simp only [Act.put, List.setIfInBounds_toArray, List.set_cons_zero, List.set_cons_succ]
          refine held_take (i := 4) (v := (.slice (some ⟨g', off', none⟩) m.length e)) rfl 21 rfl (by kernel_rfl) (by kernel_rfl) (by kernel_rfl) (fun _ _ _ h => h) (by rfl) (by intro w' hS'; unfold execOp; simp [go_sem]) hcur _ rfl ?_
          simp only [Act.put, List.setIfInBounds_toArray, List.set_cons_zero, List.set_cons_succ]
          refine held_take (i := 5) (v := (.int .i64 k)) rfl 22 rfl (by kernel_rfl) (by kernel_rfl) (by kernel_rfl) (fun _ _ _ h => h) (by rfl) (by intro w' hS'; unfold execOp; simp [go_sem]) hcur _ rfl ?_
          simp only [Act.put, List.setIfInBounds_toArray, List.set_cons_zero, List.set_cons_succ]
          refine held_take (i := 6) (v := (.pointer (some ⟨g', off' + k * 35, none⟩))) rfl 23 rfl (by kernel_rfl) (by kernel_rfl) (by kernel_rfl) (fun _ _ _ h => h) (by rfl) (by intro w' hS'; unfold execOp; simp [go_sem, m0, m1]) hcur _ rfl ?_
          simp only [Act.put, List.setIfInBounds_toArray, List.set_cons_zero, List.set_cons_succ]
          refine held_take (i := 7) (v := (.agg vb)) rfl 24 rfl (by kernel_rfl) (by kernel_rfl) (by kernel_rfl) (fun _ _ _ h => h) (by rfl) (by intro w' hS'; exact exec_loadM 75 _ rfl _ _ rfl vb hS'.2 Tryz.underlying75 rfl HI.out.2) hcur _ rfl ?_
          simp only [Act.put, List.setIfInBounds_toArray, List.set_cons_zero, List.set_cons_succ]
          refine held_take (i := 8) (v := (.bool true)) rfl 25 rfl (by kernel_rfl) (by kernel_rfl) (by kernel_rfl) (fun _ _ _ h => h) (by rfl) (by intro w' hS'; unfold execOp; simp [go_sem, heq, hd]) hcur _ rfl ?_
          simp only [Act.put, List.setIfInBounds_toArray, List.set_cons_zero, List.set_cons_succ]
          refine wpAnyH_done (by kernel_rfl) ?_ _
          unfold NoPanic
          dsimp only
          clear hcur heq hd
          go_wp2_with fail
          go_ret
          refine ⟨?_, HBD.out⟩
          rw [decide_eq_false HAB.out]
          rfl
      · have e1 : k = m.length := by omega
        have HF := Lib.hid (And.intro hb (show l = m from List.ext_getElem? fun i => by
          by_cases hi : i < k
          · exact hall i hi
          · rw [List.getElem?_eq_none (by omega), List.getElem?_eq_none (by omega)]))
        have m1 : ¬ (k : Int) < (m.length : Int) := by omega
        clear hb hall e1 hk hlt hlen
        go_wp2_with fail
        go_ret
        refine ⟨?_, HF.out.1⟩
        rw [decide_eq_true HF.out.2]
        rfl
  · have hne : ¬ (l.length : Int) = (m.length : Int) := by omega
    have HN := Lib.hid (show l ≠ m from fun e => hlen (by rw [e]))
    clear hlen
    go_enter Tryz.func28, Tryz.ntmps28
    go_wp2_with fail
    go_ret
    refine ⟨?_, Below.refl _ _⟩
    rw [decide_eq_false HN.out]
    rfl
end Go.Proofs.YtjngghihciimjaaGreat
namespace Go.Proofs.YtjngghihciimjaaGreat
set_option maxRecDepth 100000
open Go.RowKit Go.Sort

set_option maxHeartbeats 4000000 in
theorem assetsOf_any (w : World) (pa : Option Addr) (l : List As) (c : Nat) (lim : Int) (h : Row w pa l) :
    Calls Tryz.prog 130 #[.slice pa l.length c, .int .i64 lim] w fun e w' => (∃ n, e = .returned (.int .i64 n)) ∧ Below w.heap.size w w' := by
  have hli : (l.length : Int) ≤ 9223372036854775807 := by have := h.1; unfold maxLen at this; omega
  have H := Lib.hid h
  clear h
  go_enter Tryz.func130, Tryz.ntmps130
  go_wp2_with fail
  go_loopw [5, 6] (fun s i W => ∃ (k : Nat) (n : Int), k ≤ l.length ∧ s = .int .i64 n ∧ i = .int .i64 k ∧ Below w.heap.size w W) (fun _ i _ => l.length - (intOf i).toNat)
  case atStart => exact ⟨0, 0, Nat.zero_le _, rfl, rfl, Below.refl _ _⟩
  case round =>
    obtain ⟨k, n, hk, rfl, rfl, hb⟩ := hrel
    by_cases hlt : k < l.length
    · have m1 : (k : Int) < (l.length : Int) := by omega
      have m0 : (0 : Int) ≤ (k : Int) := by omega
      by_cases hn : n ≤ lim
      · obtain ⟨g, off, rfl, hg, hh⟩ := H.out.2.2 (by omega)
        obtain ⟨a, ha⟩ : ∃ a, a = l[k] := ⟨_, rfl⟩
        have hka : l[k]? = some a := by rw [ha, List.getElem?_eq_getElem hlt]
        have oka := H.out.2.1 a (List.mem_of_getElem? hka)
        have c32 := (hh.below hb hg) k a hka 32 (.string (txt a.nm.2)) (by rw [Array.getElem?_toList]; exact asC_txt a oka.1)
        have hts := txt_size a.nm.2
        have ht := oka.2.1
        have HR := Lib.hid (And.intro hb hlt)
        generalize txt a.nm.2 = tv at c32 hts
        have hti : (tv.size : Int) ≤ 9223372036854775807 := by unfold maxLen at ht; omega
        clear ha hka oka hg hh hb hlt hk hts ht
        go_wp2_with fail
        have e1 : (k : Int) + 1 = ((k + 1 : Nat) : Int) := by omega
        rw [e1]
        refine ⟨⟨k + 1, _, HR.out.2, rfl, rfl, HR.out.1⟩, ?_⟩
        have h := HR.out.2
        show l.length - (k + 1) < l.length - k
        omega
      · have HB := Lib.hid hb
        clear hb hlt hk
        go_wp2_with fail
        go_ret
        exact ⟨⟨n, rfl⟩, HB.out⟩
    · have m1 : ¬ (k : Int) < (l.length : Int) := by omega
      have HB := Lib.hid hb
      clear hb hlt hk
      go_wp2_with fail
      go_ret
      exact ⟨⟨n, rfl⟩, HB.out⟩
set_option maxHeartbeats 1000000 in
theorem valueOf_any (w : World) (x : Int) (pa : Option Addr) (l : List As) (c : Nat) (lim : Int) (h : Row w pa l) :
    Calls Tryz.prog 84 #[.agg (vC x pa l.length c), .int .i64 lim] w fun e w' => (∃ n, e = .returned (.int .i64 n)) ∧ Below w.heap.size w w' := by
  have hli : (l.length : Int) ≤ 9223372036854775807 := by have := h.1; unfold maxLen at this; omega
  have hb1 : Below w.heap.size w (w.alloc (.cells (vC x pa l.length c) 24)) := (Below.refl _ _).alloc (Nat.le_refl _) _
  have hL : Lies (w.alloc (.cells (vC x pa l.length c) 24)) w.heap.size (vC x pa l.length c) 24 := Lies.new _ _ _
  have hC := assetsOf_any _ pa l c lim (h.below hb1 (Nat.le_refl _))
  have H := Lib.hid (And.intro hC hb1)
  have c0 := hL.cell 0 (v := .int .i64 x) rfl
  have c1 := hL.cell 1 (v := .slice pa l.length c) rfl
  clear h hC hb1 hL
  unfold vC
  unfold vC at H c0 c1
  go_enter Tryz.func84, Tryz.ntmps84
  go_wp2_with fail
  refine H.out.1.mono ?_
  rintro e w2 ⟨⟨n, rfl⟩, hb2⟩
  have HB := Lib.hid (H.out.2.trans (hb2.mono H.out.2.size))
  clear hb2 c0 c1
  go_wp2_with fail
  go_ret
  exact ⟨⟨_, rfl⟩, HB.out⟩
/-- A bundle: its number, its row. -/
structure Va where
  coin : Int
  pa : Option Addr
  l : List As
  c : Nat
def vaC (v : Va) : Array Value := vC v.coin v.pa v.l.length v.c
theorem vaC_size (v : Va) : (vaC v).size = 2 := rfl
theorem vaC_one (v : Va) : (vaC v).all (·.oneCell') = true := by simp [vaC, vC, Value.oneCell']
theorem info_value : (Tryz.prog.info? 24).map (·.size) = some 2 := by kernel_rfl
/-- The number has 64 bits, the row lies in memory. -/
def VaOk (w : World) (v : Va) : Prop := -9223372036854775808 ≤ v.coin ∧ v.coin < 9223372036854775808 ∧ Row w v.pa v.l
/-- Bundles lie one behind the other. -/
def HasV (w : World) (g off : Nat) (vs : List Va) : Prop := ∀ (i : Nat) (v : Va), vs[i]? = some v → w.rangeAt g (off + i * 2) (vaC v).toList ∧ VaOk w v
theorem HasV.below {B : Nat} {w w' : World} {g off : Nat} {vs : List Va} (h : HasV w g off vs) (hb : Below B w w') (hg : g < B) (hB : w.heap.size ≤ B) : HasV w' g off vs :=
  fun i v hi => ⟨fun j x hj => (hb.cell (p := ⟨g, off + i * 2 + j, none⟩) hg).trans ((h i v hi).1 j x hj), (h i v hi).2.1, (h i v hi).2.2.1, (h i v hi).2.2.2.below hb hB⟩
def RowV (w : World) (pa : Option Addr) (vs : List Va) : Prop := vs.length ≤ maxLen ∧ (0 < vs.length → ∃ g off, pa = some ⟨g, off, none⟩ ∧ g < w.heap.size ∧ HasV w g off vs)
theorem RowV.below {B : Nat} {w w' : World} {pa : Option Addr} {vs : List Va} (h : RowV w pa vs) (hb : Below B w w') (hB : w.heap.size ≤ B) : RowV w' pa vs :=
  ⟨h.1, fun hl => by
    obtain ⟨g, off, e, hg, hh⟩ := h.2 hl
    exact ⟨g, off, e, Nat.lt_of_lt_of_le hg hb.size, hh.below hb (Nat.lt_of_lt_of_le hg hB) hB⟩⟩
set_option maxHeartbeats 4000000 in
theorem valuesOf_any (w : World) (pa : Option Addr) (vs : List Va) (c : Nat) (lim : Int) (h : RowV w pa vs) :
    Calls Tryz.prog 48 #[.slice pa vs.length c, .int .i64 lim] w fun e w' => (∃ n, e = .returned (.int .i64 n)) ∧ Below w.heap.size w w' := by
  have hli : (vs.length : Int) ≤ 9223372036854775807 := by have := h.1; unfold maxLen at this; omega
  have H := Lib.hid h
  clear h
  go_enter Tryz.func48, Tryz.ntmps48
  go_wp2_with fail
  go_loopw [5, 6] (fun s i W => ∃ (k : Nat) (n : Int), k ≤ vs.length ∧ s = .int .i64 n ∧ i = .int .i64 k ∧ Below w.heap.size w W) (fun _ i _ => vs.length - (intOf i).toNat)
  case atStart => exact ⟨0, 0, Nat.zero_le _, rfl, rfl, Below.refl _ _⟩
  case round =>
    obtain ⟨k, n, hk, rfl, rfl, hb⟩ := hrel
    by_cases hlt : k < vs.length
    · have m1 : (k : Int) < (vs.length : Int) := by omega
      have m0 : (0 : Int) ≤ (k : Int) := by omega
      by_cases hn : n ≤ lim
      · obtain ⟨g, off, rfl, hg, hh⟩ := H.out.2 (by omega)
        obtain ⟨v, hv⟩ : ∃ v, v = vs[k] := ⟨_, rfl⟩
        have hkv : vs[k]? = some v := by rw [hv, List.getElem?_eq_getElem hlt]
        have hvv := hh.below hb hg (Nat.le_refl _) k v hkv
        have c0 := hvv.1 0 (.int .i64 v.coin) rfl
        have c1 := hvv.1 1 (.slice v.pa v.l.length v.c) rfl
        have hcall : ∀ W, Below w.heap.size w W → Calls Tryz.prog 84 #[.agg #[.int .i64 v.coin, .slice v.pa v.l.length v.c], .int .i64 lim] W fun e w' => (∃ n, e = .returned (.int .i64 n)) ∧ Below W.heap.size W w' := fun W hW =>
          valueOf_any W v.coin v.pa v.l v.c lim ((hh k v hkv).2.2.2.below hW (Nat.le_refl _))
        have HC := Lib.hid hcall
        have HR := Lib.hid (And.intro hb hlt)
        rw [Nat.add_zero] at c0
        clear hv hkv hvv hcall hg hh hb hlt hk
        go_wp2_with fail
        refine (HC.out _ HR.out.1).mono ?_
        rintro e w2 ⟨⟨m, rfl⟩, hb2⟩
        have HB2 := Lib.hid (HR.out.1.trans (hb2.mono HR.out.1.size))
        clear hb2 c0 c1
        go_wp2_with fail
        have e1 : (k : Int) + 1 = ((k + 1 : Nat) : Int) := by omega
        rw [e1]
        refine ⟨⟨k + 1, _, HR.out.2, rfl, rfl, HB2.out⟩, ?_⟩
        have h := HR.out.2
        show vs.length - (k + 1) < vs.length - k
        omega
      · have HB := Lib.hid hb
        clear hb hlt hk
        go_wp2_with fail
        go_ret
        exact ⟨⟨n, rfl⟩, HB.out⟩
    · have m1 : ¬ (k : Int) < (vs.length : Int) := by omega
      have HB := Lib.hid hb
      clear hb hlt hk
      go_wp2_with fail
      go_ret
      exact ⟨⟨n, rfl⟩, HB.out⟩
/-- A row of bundles: where, which, its room. -/
structure Vr where
  pa : Option Addr
  vs : List Va
  c : Nat
def RowR (w : World) (pa : Option Addr) (rs : List Vr) : Prop := rs.length ≤ maxLen ∧ (0 < rs.length → ∃ g off, pa = some ⟨g, off, none⟩ ∧ g < w.heap.size ∧ ∀ (i : Nat) (r : Vr), rs[i]? = some r → w.cell? ⟨g, off + i, none⟩ = some (.slice r.pa r.vs.length r.c) ∧ RowV w r.pa r.vs)
def SomeB (e : Ending) : Prop := ∃ b, e = .returned (.bool b)
set_option maxHeartbeats 4000000 in
theorem great_any (w : World) (pa : Option Addr) (rs : List Vr) (c : Nat) (h : RowR w pa rs) :
    Calls Tryz.prog 7 #[.slice pa rs.length c] w fun e w' => SomeB e ∧ Below w.heap.size w w' := by
  have hli : (rs.length : Int) ≤ 9223372036854775807 := by have := h.1; unfold maxLen at this; omega
  have H := Lib.hid h
  clear h
  go_enter Tryz.func7, Tryz.ntmps7
  go_wp2_with fail
  go_loopw [3, 4] (fun s i W => ∃ (k : Nat) (n : Int), k ≤ rs.length ∧ s = .int .i64 n ∧ i = .int .i64 k ∧ Below w.heap.size w W) (fun _ i _ => rs.length - (intOf i).toNat)
  case atStart => exact ⟨0, 0, Nat.zero_le _, rfl, rfl, Below.refl _ _⟩
  case round =>
    obtain ⟨k, n, hk, rfl, rfl, hb⟩ := hrel
    by_cases hlt : k < rs.length
    · have m1 : (k : Int) < (rs.length : Int) := by omega
      have m0 : (0 : Int) ≤ (k : Int) := by omega
      obtain ⟨g, off, rfl, hg, hh⟩ := H.out.2 (by omega)
      obtain ⟨r, hr⟩ : ∃ r, r = rs[k] := ⟨_, rfl⟩
      have hkr : rs[k]? = some r := by rw [hr, List.getElem?_eq_getElem hlt]
      have c0 := (hb.cell (p := ⟨g, off + k, none⟩) hg).trans (hh k r hkr).1
      have HC := Lib.hid (fun W (hW : Below w.heap.size w W) => valuesOf_any W r.pa r.vs r.c 200 ((hh k r hkr).2.below hW (Nat.le_refl _)))
      have HR := Lib.hid (And.intro hb hlt)
      clear hr hkr hg hh hb hlt hk
      go_wp2_with fail
      refine (HC.out _ (by first | exact HR.out.1 | exact HR.out.1.drew)).mono ?_
      rintro e w2 ⟨⟨m, rfl⟩, hb2⟩
      have HB2 := Lib.hid (HR.out.1.trans ((by first | exact hb2 | exact hb2 : Below wr.heap.size wr w2).mono HR.out.1.size))
      clear hb2 c0
      go_wp2_with fail
      have e1 : (k : Int) + 1 = ((k + 1 : Nat) : Int) := by omega
      rw [e1]
      refine ⟨⟨k + 1, _, HR.out.2, rfl, rfl, HB2.out⟩, ?_⟩
      have h := HR.out.2
      show rs.length - (k + 1) < rs.length - k
      omega
    · have m1 : ¬ (k : Int) < (rs.length : Int) := by omega
      have HB := Lib.hid hb
      clear hb hlt hk
      go_wp2_with fail
      go_ret
      exact ⟨⟨_, rfl⟩, HB.out⟩
end Go.Proofs.YtjngghihciimjaaGreat
namespace Go.Proofs.YtjngghihciimjaaGreat
set_option maxRecDepth 100000
open Go.RowKit Go.Sort

/-- A panic of the library's own error, of some number. -/
def Fault (e : Ending) : Prop := ∃ n, e = .panicked [{ v := .iface 139 (.int .i64 n), recovered := false }]
def rightV (v : Va) : Bool := rightB v.coin v.l
def Musts (vs : List Va) (e : Ending) : Prop := (vs.all rightV = true ∧ ∃ v, e = .returned v) ∨ (vs.all rightV = false ∧ Fault e)
set_option maxHeartbeats 4000000 in
theorem mustRight_any (w : World) (pa : Option Addr) (vs : List Va) (c : Nat) (h : RowV w pa vs) :
    Calls Tryz.prog 51 #[.slice pa vs.length c] w fun e w' => Musts vs e ∧ Below w.heap.size w w' := by
  have hli : (vs.length : Int) ≤ 9223372036854775807 := by have := h.1; unfold maxLen at this; omega
  have H := Lib.hid h
  clear h
  go_enter Tryz.func51, Tryz.ntmps51
  go_wp2_with fail
  go_loopw [6] (fun i W => ∃ k : Nat, k ≤ vs.length ∧ i = .int .i64 k ∧ Below w.heap.size w W ∧ ∀ (i : Nat) (v : Va), i < k → vs[i]? = some v → rightV v = true) (fun i _ => vs.length - (intOf i).toNat)
  case atStart => exact ⟨0, Nat.zero_le _, rfl, Below.refl _ _, fun i v hi => absurd hi (by omega)⟩
  case round =>
    obtain ⟨k, hk, rfl, hb, hall⟩ := hrel
    by_cases hlt : k < vs.length
    · have m1 : (k : Int) < (vs.length : Int) := by omega
      have m0 : (0 : Int) ≤ (k : Int) := by omega
      obtain ⟨g, off, rfl, hg, hh⟩ := H.out.2 (by omega)
      obtain ⟨v, hv⟩ : ∃ v, v = vs[k] := ⟨_, rfl⟩
      have hkv : vs[k]? = some v := by rw [hv, List.getElem?_eq_getElem hlt]
      have hvv := hh.below hb hg (Nat.le_refl _) k v hkv
      have c0 := hvv.1 0 (.int .i64 v.coin) rfl
      have c1 := hvv.1 1 (.slice v.pa v.l.length v.c) rfl
      have HC : Hid (∀ W, Below w.heap.size w W → Calls Tryz.prog 14 #[.agg #[.int .i64 v.coin, .slice v.pa v.l.length v.c]] W fun e w' => e = .returned (.bool (rightV v)) ∧ Below W.heap.size W w') := Lib.hid fun W hW =>
        right_any W v.coin v.pa v.l v.c ((hh k v hkv).2.2.2.below hW (Nat.le_refl _))
      have HR := Lib.hid (And.intro hb (And.intro hall (And.intro hlt hkv)))
      rw [Nat.add_zero] at c0
      clear hv hkv hvv hg hh hb hlt hk hall
      cases hr : rightV v with
      | true =>
        rw [hr] at HC
        have hW : Below w.heap.size w (wr.alloc (.cells #[.int .i64 v.coin, .slice v.pa v.l.length v.c] 24)) := HR.out.1.alloc HR.out.1.size _
        have HW := Lib.hid hW
        clear hW
        go_wp2_with fail
        refine (HC.out _ HW.out).mono ?_
        rintro e w2 ⟨rfl, hb2⟩
        have HB2 := Lib.hid (HW.out.trans (hb2.mono HW.out.size))
        clear hb2 c0 c1
        go_wp2_with fail
        have e1 : (k : Int) + 1 = ((k + 1 : Nat) : Int) := by omega
        rw [e1]
        refine ⟨⟨k + 1, HR.out.2.2.1, rfl, HB2.out, fun i x hi hx => ?_⟩, ?_⟩
        · by_cases e : i = k
          · subst e
            have h1 := HR.out.2.2.2
            rw [hx] at h1
            rw [Option.some.inj h1]
            exact hr
          · exact HR.out.2.1 i x (by omega) hx
        · have h := HR.out.2.2.1
          show vs.length - (k + 1) < vs.length - k
          omega
      | false =>
        rw [hr] at HC
        have hW : Below w.heap.size w (wr.alloc (.cells #[.int .i64 v.coin, .slice v.pa v.l.length v.c] 24)) := HR.out.1.alloc HR.out.1.size _
        have HW := Lib.hid hW
        clear hW
        have HF := Lib.hid (show vs.all rightV = false by
          rw [List.all_eq_false]
          exact ⟨v, List.mem_of_getElem? HR.out.2.2.2, by rw [hr]; simp⟩)
        clear hr
        go_wp2_with fail
        refine (HC.out _ HW.out).mono ?_
        rintro e w2 ⟨rfl, hb2⟩
        have HB2 := Lib.hid (HW.out.trans (hb2.mono HW.out.size))
        clear hb2 c0 c1
        go_wp2_with fail
        exact ⟨rfl, .inr ⟨HF.out, 2, rfl⟩, HB2.out⟩
    · have m1 : ¬ (k : Int) < (vs.length : Int) := by omega
      have HB := Lib.hid (And.intro hb (show vs.all rightV = true by
        rw [List.all_eq_true]
        intro v hv
        obtain ⟨i, hi⟩ := List.getElem?_of_mem hv
        exact hall i v (by have := (List.getElem?_eq_some_iff.1 hi).1; omega) hi))
      clear hb hlt hk hall
      go_wp2_with fail
      go_end0
      exact ⟨.inl ⟨HB.out.2, _, rfl⟩, HB.out.1⟩
def Amounts (x : BitVec 128) (e : Ending) : Prop := (fitsW x = true ∧ e = .returned (.int .i64 x.toNat)) ∨ (fitsW x = false ∧ Fault e)
set_option maxHeartbeats 1000000 in
theorem amounts_any (w : World) (x : BitVec 128) :
    Calls Tryz.prog 86 #[wv x] w fun e w' => Amounts x e ∧ Below w.heap.size w w' := by
  cases hx : fitsW x with
  | true => exact (amount_any w x hx).mono fun e w' h => ⟨.inl ⟨hx, h.1⟩, h.2⟩
  | false =>
    have hno : ¬ (hiS x = 0 ∧ loN x < 9223372036854775808) := fun h => by rw [(fits_halves x).2 h] at hx; exact absurd hx (by decide)
    have hb1 : Below w.heap.size w (w.alloc (.cells #[.int .i64 (hiS x), .int .u64 (loN x)] 48)) := (Below.refl _ _).alloc (Nat.le_refl _) _
    have H := Lib.hid (And.intro hx hb1)
    unfold wv
    clear hx hb1
    by_cases h0 : hiS x = 0
    · have hlo : (9223372036854775807 : Int) < (loN x : Int) := by
        have : ¬ loN x < 9223372036854775808 := fun h => hno ⟨h0, h⟩
        omega
      rw [h0] at H ⊢
      clear hno h0
      generalize loN x = lo at hlo H ⊢
      go_enter Tryz.func86, Tryz.ntmps86
      go_wp2
      exact ⟨rfl, .inr ⟨H.out.1, 9, rfl⟩, H.out.2⟩
    · clear hno
      generalize hiS x = hi at h0 H ⊢
      generalize loN x = lo at H ⊢
      go_enter Tryz.func86, Tryz.ntmps86
      go_wp2
      exact ⟨rfl, .inr ⟨H.out.1, 9, rfl⟩, H.out.2⟩
end Go.Proofs.YtjngghihciimjaaGreat
namespace Go.Proofs.YtjngghihciimjaaGreat
set_option maxRecDepth 100000
open Go.RowKit Go.Sort Go.Maps

theorem laidOut : laidOutB Tryz.prog = true := by kernel_rfl
theorem row68 : (86 : TypeId) < Tryz.prog.types.size := of_decide_eq_true (by kernel_rfl)
theorem wide68 : (match Tryz.prog.underlying 86 with | some (.array _ _) | some (.struct _) => true | _ => false) = true := by rw [Tryz.underlying86]
theorem keyedName : Keyed Tryz.prog 86 := Keyed.of_law (deep_law_laid laidOut (m := 5) (by omega) row68 keyed_called wide68)
/-- What a name reads as, as a key. -/
def kN (n : Nm) : Lit := .string (keyBytes (litN n))
theorem key_nm (n : Nm) (h : n.1.length = 32) (ht : n.2.length ≤ maxLen) : keyOf Tryz.prog 86 (.agg (nmC n)) = some (kN n) := by
  obtain ⟨d, hd⟩ : ∃ d, Tryz.prog.types.size + 1 = d + 3 := ⟨Tryz.prog.types.size - 2, by have : 2 ≤ Tryz.prog.types.size := of_decide_eq_true (by kernel_rfl); omega⟩
  have hk : Tryz.prog.keyType 86 = true := by kernel_rfl
  unfold keyOf
  rw [Tryz.underlying86]
  simp only [hk, formed_nm n h, Bool.and_self, if_true, hd]
  rw [show (Value.agg (nmC n)).cells.toList = (nmC n).toList from rfl, lits_nm d n h ht]
  rfl
theorem kN_inj {a b : Nm} (ha : a.1.length = 32) (hb : b.1.length = 32) (ta : a.2.length ≤ maxLen) (tb : b.2.length ≤ maxLen) (h : kN a = kN b) : a = b := by
  unfold kN at h
  have h1 := keyLits_inj (lits_nm 0 a ha ta) (lits_nm 0 b hb tb) (by simpa using h)
  exact litN_inj ha hb h1
/-- How a sum reads. -/
noncomputable def rdW (v : Value) : Option (DataW Unit × List MemPlace) := open Classical in if h : ∃ x, v = wv x then some (.lit (.int .u64 (Classical.choose h).toNat), []) else none
def dW (x : BitVec 128) : DataW Unit := .lit (.int .u64 x.toNat)
theorem rdW_wv (x : BitVec 128) : rdW (wv x) = some (dW x, []) := by
  have h : ∃ y, wv x = wv y := ⟨x, rfl⟩
  unfold rdW
  rw [dif_pos h, ← wv_inj (Classical.choose_spec h)]
  rfl
theorem dW_inj {x y : BitVec 128} (h : dW x = dW y) : x = y := by
  unfold dW at h
  simp only [DataW.lit.injEq, Lit.int.injEq, true_and] at h
  exact BitVec.eq_of_toNat_eq (by omega)
theorem rdW_inv {v : Value} {x : BitVec 128} {ps : List MemPlace} (h : rdW v = some (dW x, ps)) : v = wv x := by
  unfold rdW at h
  split at h
  · rename_i hh
    have e := Classical.choose_spec hh
    simp only [Option.some.injEq, Prod.mk.injEq] at h
    rw [e, dW_inj (x := Classical.choose hh) h.1]
  · cases h
/-- The map holds f: what has no entry has 0. -/
def HoldsF (D : DataW Unit) (f : Nm → BitVec 128) : Prop := ∀ n : Nm, n.1.length = 32 → n.2.length ≤ maxLen → D.atKey (kN n) (dW 0) = dW (f n)
def addAt (f : Nm → BitVec 128) (n : Nm) (x : BitVec 128) : Nm → BitVec 128 := fun m => if m = n then f n + x else f m
theorem HoldsF.put {D : DataW Unit} {f : Nm → BitVec 128} (h : HoldsF D f) (hD : IsMap D) (n : Nm) (x : BitVec 128) (hn : n.1.length = 32) (ht : n.2.length ≤ maxLen) : HoldsF (D.put (kN n) (dW (f n + x))) (addAt f n x) := fun m hm hmt => by
  unfold addAt
  by_cases e : m = n
  · subst e
    have hkk : WideAt.IsKeyLit (kN m) := trivial
    rw [atKey_put_same hD hkk]
    simp
  · rw [atKey_put_other (fun k => e (kN_inj hm hn hmt ht k)), h m hm hmt]
    simp [e]
theorem under70 : Tryz.prog.underlying 121 = some (.map 86 48) := Tryz.underlying121
theorem zeroW (w : World) : (zeroValue 48).run Tryz.prog w = .ok (wv 0) w := by
  rw [wv_zero]
  kernel_rfl
end Go.Proofs.YtjngghihciimjaaGreat
