/-
  Are two rows of totals the same?
-/
import Derived.Test.YtjngghihciimjaaVt
namespace Go.Proofs.Ytjngghihciimjaa
set_option maxRecDepth 100000
open Go.RowKit Go.Sort

theorem To.ext_iff' (a b : To) : a = b ↔ a.nm = b.nm ∧ a.w = b.w := by
  constructor
  · rintro rfl; exact ⟨rfl, rfl⟩
  · rintro ⟨h, k⟩; cases a; cases b; simp only at h k; rw [h, k]
instance : DecidableEq To := fun a b => decidable_of_iff _ (To.ext_iff' a b).symm
def litT' (a : To) : List Lit := litN a.nm ++ litW a.w
theorem litT_inj {a b : To} (ha : a.nm.1.length = 32) (hb : b.nm.1.length = 32) (h : litT' a = litT' b) : a = b := by
  unfold litT' at h
  have := List.append_inj h (by simp [litN, ha, hb])
  exact (To.ext_iff' a b).2 ⟨litN_inj ha hb this.1, litW_inj this.2⟩
theorem lits_to (d : Nat) (a : To) (h : ToOk a) : Try.prog.keyLits (d + 3) 48 (toC a).toList = some (litT' a) := by
  have hl : (B8 a.nm.1).toList.length = 32 := by rw [Array.length_toList, B8_size, h.1]
  have e : (toC a).toList = (B8 a.nm.1).toList ++ [.string (txt a.nm.2), .int .i64 (hiS a.w), .int .u64 (loN a.w)] := by simp [toC]
  rw [e]
  unfold Program.keyLits
  simp only [Try.underlying48, cells48, List.length_append, hl, List.length_cons, List.length_nil]
  rw [if_pos ⟨trivial, by kernel_rfl⟩]
  have e33 : ((B8 a.nm.1).toList ++ [Value.string (txt a.nm.2), Value.int .i64 (hiS a.w), Value.int .u64 (loN a.w)]).drop 33 = (wC a.w).toList := by
    rw [show (33 : Nat) = 32 + 1 from rfl, ← List.drop_drop, List.drop_left' hl]
    rfl
  have e2 : (wC a.w).toList.take 2 = (wC a.w).toList := rfl
  simp only [List.mapM_cons, List.mapM_nil, cells26, cells9, cells39, List.drop_zero, List.take_left' hl, List.drop_left' hl, e33, e2]
  rw [litsH d a.nm.1 h.1, lits_w d a.w]
  simp [litT, h.2, litT', litN, litW]
theorem formed_to (a : To) (h : a.nm.1.length = 32) : (Value.agg (toC a)).formed Try.prog 48 = true := by
  obtain ⟨⟨p, t⟩, x⟩ := a
  obtain ⟨a0, a1, a2, a3, a4, a5, a6, a7, a8, a9, a10, a11, a12, a13, a14, a15, a16, a17, a18, a19, a20, a21, a22, a23, a24, a25, a26, a27, a28, a29, a30, a31, rfl⟩ := list32 p h
  kernel_rfl
theorem eq_to (w : World) (a b : To) (ha : ToOk a) (hb : ToOk b) : (Op.equalIn 10000 48 (.agg (toC a)) (.agg (toC b))).run Try.prog w = .ok (decide (a = b)) w := by
  obtain ⟨r, hr, hi⟩ := run_equalIn_deep 9995 5 48 keyed_total w 5 5 (.agg (toC a)) (.agg (toC b)) _ _ (formed_to a ha.1) (formed_to b hb.1) (lits_to 2 a ha) (lits_to 2 b hb)
  have e : r = decide (a = b) := by
    rw [Bool.eq_iff_iff, decide_eq_true_iff, hi]
    exact ⟨litT_inj ha.1 hb.1, fun e => by rw [e]⟩
  rw [← e]
  exact hr
theorem eq_w (w : World) (a b : BitVec 128) : (Op.equalIn 10000 39 (.agg (wC a)) (.agg (wC b))).run Try.prog w = .ok (decide (a = b)) w := by
  have hf : ∀ x, (Value.agg (wC x)).formed Try.prog 39 = true := fun x => by kernel_rfl
  obtain ⟨r, hr, hi⟩ := run_equalIn_deep 9995 5 39 keyed_wide w 5 5 (.agg (wC a)) (.agg (wC b)) _ _ (hf a) (hf b) (lits_w 3 a) (lits_w 3 b)
  have e : r = decide (a = b) := by
    rw [Bool.eq_iff_iff, decide_eq_true_iff, hi]
    exact ⟨litW_inj, fun e => by rw [e]⟩
  rw [← e]
  exact hr
/-- Totals lie one behind the other. -/
def HasT (w : World) (g off : Nat) (l : List To) : Prop := ∀ (i : Nat) (a : To), l[i]? = some a → w.rangeAt g (off + i * 35) (toC a).toList
theorem HasT.below {B : Nat} {w w' : World} {g off : Nat} {l : List To} (h : HasT w g off l) (hb : Below B w w') (hg : g < B) : HasT w' g off l :=
  fun i a hi j v hv => (hb.cell (p := ⟨g, off + i * 35 + j, none⟩) hg).trans (h i a hi j v hv)
def RowT (w : World) (pa : Option Addr) (l : List To) : Prop := l.length ≤ maxLen ∧ (∀ a, a ∈ l → ToOk a) ∧ (0 < l.length → ∃ g off, pa = some ⟨g, off, none⟩ ∧ g < w.heap.size ∧ HasT w g off l)
theorem RowT.below {B : Nat} {w w' : World} {pa : Option Addr} {l : List To} (h : RowT w pa l) (hb : Below B w w') (hB : w.heap.size ≤ B) : RowT w' pa l :=
  ⟨h.1, h.2.1, fun hl => by
    obtain ⟨g, off, e, hg, hh⟩ := h.2.2 hl
    exact ⟨g, off, e, Nat.lt_of_lt_of_le hg hb.size, hh.below hb (Nat.lt_of_lt_of_le hg hB)⟩⟩
set_option maxHeartbeats 4000000 in
theorem sameT_any (w : World) (pa pb : Option Addr) (l m : List To) (c e : Nat) (hl : RowT w pa l) (hm : RowT w pb m) :
    Calls Try.prog 15 #[.slice pa l.length c, .slice pb m.length e] w fun e w' => e = .returned (.bool (decide (l = m))) ∧ Below w.heap.size w w' := by
  have hli : (l.length : Int) ≤ 9223372036854775807 := by have := hl.1; unfold maxLen at this; omega
  have hmi : (m.length : Int) ≤ 9223372036854775807 := by have := hm.1; unfold maxLen at this; omega
  have HS := Lib.hid (And.intro hl hm)
  clear hl hm
  by_cases hlen : l.length = m.length
  · rw [hlen]
    have HL := Lib.hid hlen
    clear hlen
    go_enter Try.func15, Try.ntmps15
    go_wp2_with fail
    go_loopw [5] (fun i W => ∃ k : Nat, k ≤ m.length ∧ i = .int .i64 k ∧ Below w.heap.size w W ∧ ∀ i, i < k → l[i]? = m[i]?) (fun i _ => m.length - (intOf i).toNat)
    case atStart => exact ⟨0, Nat.zero_le _, rfl, Below.refl _ _, fun i hi => absurd hi (by omega)⟩
    case round =>
      obtain ⟨k, hk, rfl, hb, hall⟩ := hrel
      have hlen := HL.out
      by_cases hlt : k < m.length
      · have m1 : (k : Int) < (m.length : Int) := by omega
        have m0 : (0 : Int) ≤ (k : Int) := by omega
        obtain ⟨g, off, rfl, hg, hh⟩ := HS.out.1.2.2 (by omega)
        obtain ⟨g', off', rfl, hg', hh'⟩ := HS.out.2.2.2 (by omega)
        obtain ⟨a, ha⟩ : ∃ a, a = l[k] := ⟨_, rfl⟩
        obtain ⟨b, hb'⟩ : ∃ b, b = m[k] := ⟨_, rfl⟩
        have hka : l[k]? = some a := by rw [ha, List.getElem?_eq_getElem (by omega)]
        have hkb : m[k]? = some b := by rw [hb', List.getElem?_eq_getElem hlt]
        have oka := HS.out.1.2.1 a (List.mem_of_getElem? hka)
        have okb := HS.out.2.2.1 b (List.mem_of_getElem? hkb)
        obtain ⟨va, hva⟩ : ∃ v, v = toC a := ⟨_, rfl⟩
        obtain ⟨vb, hvb⟩ : ∃ v, v = toC b := ⟨_, rfl⟩
        have hvs : va.size = 35 := by rw [hva]; exact toC_size a oka.1
        have hvt : vb.size = 35 := by rw [hvb]; exact toC_size b okb.1
        have heq : ∀ W, (Op.equalIn 10000 48 (.agg va) (.agg vb)).run Try.prog W = .ok (decide (a = b)) W := fun W => by rw [hva, hvb]; exact eq_to W a b oka okb
        have HR1 : Hid (∀ W, Below w.heap.size w W → W.rangeAt g (off + k * 35) va.toList ∧ W.rangeAt g' (off' + k * 35) vb.toList) := Lib.hid fun W hW => by
          rw [hva, hvb]
          exact ⟨(hh.below hW hg) k a hka, (hh'.below hW hg') k b hkb⟩
        have HR := Lib.hid (And.intro hb (And.intro hall (And.intro hlt (And.intro hka (And.intro hkb (And.intro hvs hvt))))))
        have HI := Lib.hid (And.intro (show (Try.prog.info? 48).map (·.size) = some va.size by rw [hvs]; exact info_total) (show (Try.prog.info? 48).map (·.size) = some vb.size by rw [hvt]; exact info_total))
        clear hlen hb hall hlt hk ha hb' hka hkb oka okb hva hvb hvs hvt hh hh' hg hg'
        go_upto_region 6 with fail
        refine wp_region_noPanic (wp_region_held (S := fun V => V.rangeAt g (off + k * 35) va.toList ∧ V.rangeAt g' (off' + k * 35) vb.toList) (by kernel_rfl) ?_)
        change wpAnyH _ _ _ _ _ 9 _ _ (World.drew wr)
        have hcur := HR1.out _ HR.out.1.drew
        have hbd : Below w.heap.size w wr.drew := HR.out.1.drew
        have HBD := Lib.hid hbd
        clear hbd
        by_cases hab : a = b
        · have hd : decide (a = b) = true := by simp [hab]
          have HAB := Lib.hid hab
          clear hab
          refine held_take (i := 0) (v := (.slice (some ⟨g, off, none⟩) m.length c)) rfl 17 rfl (by kernel_rfl) (by kernel_rfl) (by kernel_rfl) (fun _ _ _ h => h) (by rfl) (by intro w' hS'; unfold execOp; simp [go_sem]) hcur _ rfl ?_
          simp only [Act.put, List.setIfInBounds_toArray, List.set_cons_zero, List.set_cons_succ]
          refine held_take (i := 1) (v := (.int .i64 k)) rfl 18 rfl (by kernel_rfl) (by kernel_rfl) (by kernel_rfl) (fun _ _ _ h => h) (by rfl) (by intro w' hS'; unfold execOp; simp [go_sem]) hcur _ rfl ?_
          simp only [Act.put, List.setIfInBounds_toArray, List.set_cons_zero, List.set_cons_succ]
          refine held_take (i := 2) (v := (.pointer (some ⟨g, off + k * 35, none⟩))) rfl 19 rfl (by kernel_rfl) (by kernel_rfl) (by kernel_rfl) (fun _ _ _ h => h) (by rfl) (by intro w' hS'; unfold execOp; simp [go_sem, m0, m1]) hcur _ rfl ?_
          simp only [Act.put, List.setIfInBounds_toArray, List.set_cons_zero, List.set_cons_succ]
          refine held_take (i := 3) (v := (.agg va)) rfl 20 rfl (by kernel_rfl) (by kernel_rfl) (by kernel_rfl) (fun _ _ _ h => h) (by rfl) (by intro w' hS'; exact exec_loadM 48 _ rfl _ _ rfl va hS'.1 Try.underlying48 rfl HI.out.1) hcur _ rfl ?_
          simp only [Act.put, List.setIfInBounds_toArray, List.set_cons_zero, List.set_cons_succ]
          refine held_take (i := 4) (v := (.slice (some ⟨g', off', none⟩) m.length e)) rfl 21 rfl (by kernel_rfl) (by kernel_rfl) (by kernel_rfl) (fun _ _ _ h => h) (by rfl) (by intro w' hS'; unfold execOp; simp [go_sem]) hcur _ rfl ?_
          simp only [Act.put, List.setIfInBounds_toArray, List.set_cons_zero, List.set_cons_succ]
          refine held_take (i := 5) (v := (.int .i64 k)) rfl 22 rfl (by kernel_rfl) (by kernel_rfl) (by kernel_rfl) (fun _ _ _ h => h) (by rfl) (by intro w' hS'; unfold execOp; simp [go_sem]) hcur _ rfl ?_
          simp only [Act.put, List.setIfInBounds_toArray, List.set_cons_zero, List.set_cons_succ]
          refine held_take (i := 6) (v := (.pointer (some ⟨g', off' + k * 35, none⟩))) rfl 23 rfl (by kernel_rfl) (by kernel_rfl) (by kernel_rfl) (fun _ _ _ h => h) (by rfl) (by intro w' hS'; unfold execOp; simp [go_sem, m0, m1]) hcur _ rfl ?_
          simp only [Act.put, List.setIfInBounds_toArray, List.set_cons_zero, List.set_cons_succ]
          refine held_take (i := 7) (v := (.agg vb)) rfl 24 rfl (by kernel_rfl) (by kernel_rfl) (by kernel_rfl) (fun _ _ _ h => h) (by rfl) (by intro w' hS'; exact exec_loadM 48 _ rfl _ _ rfl vb hS'.2 Try.underlying48 rfl HI.out.2) hcur _ rfl ?_
          simp only [Act.put, List.setIfInBounds_toArray, List.set_cons_zero, List.set_cons_succ]
          refine held_take (i := 8) (v := (.bool false)) rfl 25 rfl (by kernel_rfl) (by kernel_rfl) (by kernel_rfl) (fun _ _ _ h => h) (by rfl) (by intro w' hS'; unfold execOp; simp [go_sem, heq, hd]) hcur _ rfl ?_
          simp only [Act.put, List.setIfInBounds_toArray, List.set_cons_zero, List.set_cons_succ]
          refine wpAnyH_done (by kernel_rfl) ?_ _
          unfold NoPanic
          dsimp only
          clear hcur heq hd
          go_wp2_with fail
          have e1 : (k : Int) + 1 = ((k + 1 : Nat) : Int) := by omega
          rw [e1]
          refine ⟨⟨k + 1, HR.out.2.2.1, rfl, HBD.out, fun i hi => ?_⟩, ?_⟩
          · by_cases e : i = k
            · rw [e, HR.out.2.2.2.1, HR.out.2.2.2.2.1, HAB.out]
            · exact HR.out.2.1 i (by omega)
          · have h := HR.out.2.2.1
            show m.length - (k + 1) < m.length - k
            omega
        · have hd : decide (a = b) = false := by simp [hab]
          have HAB := Lib.hid (show l ≠ m from fun e => hab (by
            have h1 := HR.out.2.2.2.1
            rw [e, HR.out.2.2.2.2.1] at h1
            exact (Option.some.inj h1).symm))
          clear hab
          refine held_take (i := 0) (v := (.slice (some ⟨g, off, none⟩) m.length c)) rfl 17 rfl (by kernel_rfl) (by kernel_rfl) (by kernel_rfl) (fun _ _ _ h => h) (by rfl) (by intro w' hS'; unfold execOp; simp [go_sem]) hcur _ rfl ?_
          simp only [Act.put, List.setIfInBounds_toArray, List.set_cons_zero, List.set_cons_succ]
          refine held_take (i := 1) (v := (.int .i64 k)) rfl 18 rfl (by kernel_rfl) (by kernel_rfl) (by kernel_rfl) (fun _ _ _ h => h) (by rfl) (by intro w' hS'; unfold execOp; simp [go_sem]) hcur _ rfl ?_
          simp only [Act.put, List.setIfInBounds_toArray, List.set_cons_zero, List.set_cons_succ]
          refine held_take (i := 2) (v := (.pointer (some ⟨g, off + k * 35, none⟩))) rfl 19 rfl (by kernel_rfl) (by kernel_rfl) (by kernel_rfl) (fun _ _ _ h => h) (by rfl) (by intro w' hS'; unfold execOp; simp [go_sem, m0, m1]) hcur _ rfl ?_
          simp only [Act.put, List.setIfInBounds_toArray, List.set_cons_zero, List.set_cons_succ]
          refine held_take (i := 3) (v := (.agg va)) rfl 20 rfl (by kernel_rfl) (by kernel_rfl) (by kernel_rfl) (fun _ _ _ h => h) (by rfl) (by intro w' hS'; exact exec_loadM 48 _ rfl _ _ rfl va hS'.1 Try.underlying48 rfl HI.out.1) hcur _ rfl ?_
          simp only [Act.put, List.setIfInBounds_toArray, List.set_cons_zero, List.set_cons_succ]
          refine held_take (i := 4) (v := (.slice (some ⟨g', off', none⟩) m.length e)) rfl 21 rfl (by kernel_rfl) (by kernel_rfl) (by kernel_rfl) (fun _ _ _ h => h) (by rfl) (by intro w' hS'; unfold execOp; simp [go_sem]) hcur _ rfl ?_
          simp only [Act.put, List.setIfInBounds_toArray, List.set_cons_zero, List.set_cons_succ]
          refine held_take (i := 5) (v := (.int .i64 k)) rfl 22 rfl (by kernel_rfl) (by kernel_rfl) (by kernel_rfl) (fun _ _ _ h => h) (by rfl) (by intro w' hS'; unfold execOp; simp [go_sem]) hcur _ rfl ?_
          simp only [Act.put, List.setIfInBounds_toArray, List.set_cons_zero, List.set_cons_succ]
          refine held_take (i := 6) (v := (.pointer (some ⟨g', off' + k * 35, none⟩))) rfl 23 rfl (by kernel_rfl) (by kernel_rfl) (by kernel_rfl) (fun _ _ _ h => h) (by rfl) (by intro w' hS'; unfold execOp; simp [go_sem, m0, m1]) hcur _ rfl ?_
          simp only [Act.put, List.setIfInBounds_toArray, List.set_cons_zero, List.set_cons_succ]
          refine held_take (i := 7) (v := (.agg vb)) rfl 24 rfl (by kernel_rfl) (by kernel_rfl) (by kernel_rfl) (fun _ _ _ h => h) (by rfl) (by intro w' hS'; exact exec_loadM 48 _ rfl _ _ rfl vb hS'.2 Try.underlying48 rfl HI.out.2) hcur _ rfl ?_
          simp only [Act.put, List.setIfInBounds_toArray, List.set_cons_zero, List.set_cons_succ]
          refine held_take (i := 8) (v := (.bool true)) rfl 25 rfl (by kernel_rfl) (by kernel_rfl) (by kernel_rfl) (fun _ _ _ h => h) (by rfl) (by intro w' hS'; unfold execOp; simp [go_sem, heq, hd]) hcur _ rfl ?_
          simp only [Act.put, List.setIfInBounds_toArray, List.set_cons_zero, List.set_cons_succ]
          refine wpAnyH_done (by kernel_rfl) ?_ _
          unfold NoPanic
          dsimp only
          clear hcur heq hd
          go_wp2_with fail
          go_ret
          refine ⟨?_, HBD.out⟩
          rw [decide_eq_false HAB.out]
          rfl
      · have e1 : k = m.length := by omega
        have HF := Lib.hid (And.intro hb (show l = m from List.ext_getElem? fun i => by
          by_cases hi : i < k
          · exact hall i hi
          · rw [List.getElem?_eq_none (by omega), List.getElem?_eq_none (by omega)]))
        have m1 : ¬ (k : Int) < (m.length : Int) := by omega
        clear hb hall e1 hk hlt hlen
        go_wp2_with fail
        go_ret
        refine ⟨?_, HF.out.1⟩
        rw [decide_eq_true HF.out.2]
        rfl
  · have hne : ¬ (l.length : Int) = (m.length : Int) := by omega
    have HN := Lib.hid (show l ≠ m from fun e => hlen (by rw [e]))
    clear hlen
    go_enter Try.func15, Try.ntmps15
    go_wp2_with fail
    go_ret
    refine ⟨?_, Below.refl _ _⟩
    rw [decide_eq_false HN.out]
    rfl
end Go.Proofs.Ytjngghihciimjaa
