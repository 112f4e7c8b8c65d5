/-
  Rows of elements of several cells that grow, in memory of the call's own.
-/
import Derived.Test.YtjngghihciimjaaGreatJVt
import Derived.DeepKeys4
import Derived.Maps.OwnSet
import Derived.Maps.Views
import Derived.Maps.Range
import Derived.Deep.AppendLies
import Derived.Deep.WholeRow
import Derived.Great.BuildSlice
namespace Go.Proofs.YtjngghihciimjaaGreat
set_option maxRecDepth 100000
open Go.RowKit Go.Sort
theorem To.ext_iff' (a b : To) : a = b ↔ a.nm = b.nm ∧ a.w = b.w := by
 constructor
 ·
  rintro rfl; exact ⟨rfl, rfl⟩
 ·
  rintro ⟨h, k⟩; cases a; cases b; simp only at h k; rw [h, k]
instance : DecidableEq To := fun a b => decidable_of_iff _ (To.ext_iff' a b).symm
def litT' (a : To) : List Lit := litN a.nm ++ litW a.w
theorem litT_inj {a b : To} (ha : a.nm.1.length = 32) (hb : b.nm.1.length = 32) (h : litT' a = litT' b) : a = b := by
 unfold litT' at h
 have := List.append_inj h (by simp [litN, ha, hb])
 exact (To.ext_iff' a b).2 ⟨litN_inj ha hb this.1, litW_inj this.2⟩
theorem lits_to (d : Nat) (a : To) (h : ToOk a) : Tryz.prog.keyLits (d + 3) 75 (toC a).toList = some (litT' a) := by
 have hl : (B8 a.nm.1).toList.length = 32 := by rw [Array.length_toList, B8_size, h.1]
 have e : (toC a).toList = (B8 a.nm.1).toList ++ [.string (txt a.nm.2), .int .i64 (hiS a.w), .int .u64 (loN a.w)] := by simp [toC]
 rw [e]
 unfold Program.keyLits
 simp only [Tryz.underlying75, cells48, List.length_append, hl, List.length_cons, List.length_nil]
 rw [if_pos ⟨trivial, by kernel_rfl⟩]
 have e33 : ((B8 a.nm.1).toList ++ [Value.string (txt a.nm.2), Value.int .i64 (hiS a.w), Value.int .u64 (loN a.w)]).drop 33 = (wC a.w).toList := by
  rw [show (33 : Nat) = 32 + 1 from rfl, ← List.drop_drop, List.drop_left' hl]
  rfl
 have e2 : (wC a.w).toList.take 2 = (wC a.w).toList := rfl
 simp only [List.mapM_cons, List.mapM_nil, cells26, cells9, cells39, List.drop_zero, List.take_left' hl, List.drop_left' hl, e33, e2]
 rw [litsH d a.nm.1 h.1, lits_w d a.w]
 simp [litT, h.2, litT', litN, litW]
theorem formed_to (a : To) (h : a.nm.1.length = 32) : (Value.agg (toC a)).formed Tryz.prog 75 = true := by
 obtain ⟨⟨p, t⟩, x⟩ := a
 obtain ⟨a0, a1, a2, a3, a4, a5, a6, a7, a8, a9, a10, a11, a12, a13, a14, a15, a16, a17, a18, a19, a20, a21, a22, a23, a24, a25, a26, a27, a28, a29, a30, a31, rfl⟩ := list32 p h
 kernel_rfl
theorem eq_to (w : World) (a b : To) (ha : ToOk a) (hb : ToOk b) : (Op.equalIn 10000 75 (.agg (toC a)) (.agg (toC b))).run Tryz.prog w = .ok (decide (a = b)) w := by
 obtain ⟨r, hr, hi⟩ := run_equalIn_deep 9995 5 75 keyed_total w 5 5 (.agg (toC a)) (.agg (toC b)) _ _ (formed_to a ha.1) (formed_to b hb.1) (lits_to 2 a ha) (lits_to 2 b hb)
 have e : r = decide (a = b) := by
  rw [Bool.eq_iff_iff, decide_eq_true_iff, hi]
  exact ⟨litT_inj ha.1 hb.1, fun e => by rw [e]⟩
 rw [← e]
 exact hr
theorem eq_w (w : World) (a b : BitVec 128) : (Op.equalIn 10000 48 (.agg (wC a)) (.agg (wC b))).run Tryz.prog w = .ok (decide (a = b)) w := by
 have hf : ∀ x, (Value.agg (wC x)).formed Tryz.prog 48 = true := fun x => by kernel_rfl
 obtain ⟨r, hr, hi⟩ := run_equalIn_deep 9995 5 48 keyed_wide w 5 5 (.agg (wC a)) (.agg (wC b)) _ _ (hf a) (hf b) (lits_w 3 a) (lits_w 3 b)
 have e : r = decide (a = b) := by
  rw [Bool.eq_iff_iff, decide_eq_true_iff, hi]
  exact ⟨litW_inj, fun e => by rw [e]⟩
 rw [← e]
 exact hr
def HasT (w : World) (g off : Nat) (l : List To) : Prop := ∀ (i : Nat) (a : To), l[i]? = some a → w.rangeAt g (off + i * 35) (toC a).toList
theorem HasT.below {B : Nat} {w w' : World} {g off : Nat} {l : List To} (h : HasT w g off l) (hb : Below B w w') (hg : g < B) : HasT w' g off l :=
 fun i a hi j v hv => (hb.cell (p := ⟨g, off + i * 35 + j, none⟩) hg).trans (h i a hi j v hv)
def RowT (w : World) (pa : Option Addr) (l : List To) : Prop := l.length ≤ maxLen ∧ (∀ a, a ∈ l → ToOk a) ∧ (0 < l.length → ∃ g off, pa = some ⟨g, off, none⟩ ∧ g < w.heap.size ∧ HasT w g off l)
theorem RowT.below {B : Nat} {w w' : World} {pa : Option Addr} {l : List To} (h : RowT w pa l) (hb : Below B w w') (hB : w.heap.size ≤ B) : RowT w' pa l :=
 ⟨h.1, h.2.1, fun hl => by
  obtain ⟨g, off, e, hg, hh⟩ := h.2.2 hl
  exact ⟨g, off, e, Nat.lt_of_lt_of_le hg hb.size, hh.below hb (Nat.lt_of_lt_of_le hg hB)⟩⟩
set_option maxHeartbeats 4000000 in
theorem sameT_any (w : World) (pa pb : Option Addr) (l m : List To) (c e : Nat) (hl : RowT w pa l) (hm : RowT w pb m) :
  Calls Tryz.prog 28 #[.slice pa l.length c, .slice pb m.length e] w fun e w' => e = .returned (.bool (decide (l = m))) ∧ Below w.heap.size w w' := by
 have hli : (l.length : Int) ≤ 9223372036854775807 := by have := hl.1; unfold maxLen at this; omega
 have hmi : (m.length : Int) ≤ 9223372036854775807 := by have := hm.1; unfold maxLen at this; omega
 have HS := Lib.hid (And.intro hl hm)
 clear hl hm
 by_cases hlen : l.length = m.length
 ·
  rw [hlen]
  have HL := Lib.hid hlen
  clear hlen
  go_enter Tryz.func28, Tryz.ntmps28
  go_wp2_with fail
  go_loopw [5] (fun i W => ∃ k : Nat, k ≤ m.length ∧ i = .int .i64 k ∧ Below w.heap.size w W ∧ ∀ i, i < k → l[i]? = m[i]?) (fun i _ => m.length - (intOf i).toNat)
  case atStart => exact ⟨0, Nat.zero_le _, rfl, Below.refl _ _, fun i hi => absurd hi (by omega)⟩
  case round =>
   obtain ⟨k, hk, rfl, hb, hall⟩ := hrel
   have hlen := HL.out
   by_cases hlt : k < m.length
   ·
    have m1 : (k : Int) < (m.length : Int) := by omega
    have m0 : (0 : Int) ≤ (k : Int) := by omega
    obtain ⟨g, off, rfl, hg, hh⟩ := HS.out.1.2.2 (by omega)
    obtain ⟨g', off', rfl, hg', hh'⟩ := HS.out.2.2.2 (by omega)
    obtain ⟨a, ha⟩ : ∃ a, a = l[k] := ⟨_, rfl⟩
    obtain ⟨b, hb'⟩ : ∃ b, b = m[k] := ⟨_, rfl⟩
    have hka : l[k]? = some a := by rw [ha, List.getElem?_eq_getElem (by omega)]
    have hkb : m[k]? = some b := by rw [hb', List.getElem?_eq_getElem hlt]
    have oka := HS.out.1.2.1 a (List.mem_of_getElem? hka)
    have okb := HS.out.2.2.1 b (List.mem_of_getElem? hkb)
    obtain ⟨va, hva⟩ : ∃ v, v = toC a := ⟨_, rfl⟩
    obtain ⟨vb, hvb⟩ : ∃ v, v = toC b := ⟨_, rfl⟩
    have hvs : va.size = 35 := by rw [hva]; exact toC_size a oka.1
    have hvt : vb.size = 35 := by rw [hvb]; exact toC_size b okb.1
    have heq : ∀ W, (Op.equalIn 10000 75 (.agg va) (.agg vb)).run Tryz.prog W = .ok (decide (a = b)) W := fun W => by rw [hva, hvb]; exact eq_to W a b oka okb
    have HR1 : Hid (∀ W, Below w.heap.size w W → W.rangeAt g (off + k * 35) va.toList ∧ W.rangeAt g' (off' + k * 35) vb.toList) := Lib.hid fun W hW => by
     rw [hva, hvb]
     exact ⟨(hh.below hW hg) k a hka, (hh'.below hW hg') k b hkb⟩
    have HR := Lib.hid (And.intro hb (And.intro hall (And.intro hlt (And.intro hka (And.intro hkb (And.intro hvs hvt))))))
    have HI := Lib.hid (And.intro (show (Tryz.prog.info? 75).map (·.size) = some va.size by rw [hvs]; exact info_total) (show (Tryz.prog.info? 75).map (·.size) = some vb.size by rw [hvt]; exact info_total))
    clear hlen hb hall hlt hk ha hb' hka hkb oka okb hva hvb hvs hvt hh hh' hg hg'
    go_upto_region 6 with fail
    refine wp_region_noPanic (wp_region_held (S := fun V => V.rangeAt g (off + k * 35) va.toList ∧ V.rangeAt g' (off' + k * 35) vb.toList) (by kernel_rfl) ?_)
    change wpAnyH _ _ _ _ _ 9 _ _ (World.drew wr)
    have hcur := HR1.out _ HR.out.1.drew
    have hbd : Below w.heap.size w wr.drew := HR.out.1.drew
    have HBD := Lib.hid hbd
    clear hbd
    by_cases hab : a = b
    ·
     have hd : decide (a = b) = true := by simp [hab]
     have HAB := Lib.hid hab
     clear hab
     refine tk 0 (.slice (some ⟨g, off, none⟩) m.length c) 17 rfl rfl hcur ?_
     refine tk 1 (.int .i64 k) 18 rfl rfl hcur ?_
     refine tk 2 (.pointer (some ⟨g, off + k * 35, none⟩)) 19 rfl rfl hcur ?_ (by intro w' hS'; unfold execOp; simp [go_sem, m0, m1])
     refine tk 3 (.agg va) 20 rfl rfl hcur ?_ (by intro w' hS'; exact exec_loadM 75 _ rfl _ _ rfl va hS'.1 Tryz.underlying75 rfl HI.out.1)
     refine tk 4 (.slice (some ⟨g', off', none⟩) m.length e) 21 rfl rfl hcur ?_
     refine tk 5 (.int .i64 k) 22 rfl rfl hcur ?_
     refine tk 6 (.pointer (some ⟨g', off' + k * 35, none⟩)) 23 rfl rfl hcur ?_ (by intro w' hS'; unfold execOp; simp [go_sem, m0, m1])
     refine tk 7 (.agg vb) 24 rfl rfl hcur ?_ (by intro w' hS'; exact exec_loadM 75 _ rfl _ _ rfl vb hS'.2 Tryz.underlying75 rfl HI.out.2)
     refine tk 8 (.bool false) 25 rfl rfl hcur ?_ (by intro w' hS'; unfold execOp; simp [go_sem, heq, hd])
     refine wpAnyH_done (by kernel_rfl) ?_ _
     unfold NoPanic
     dsimp only
     clear hcur heq hd
     go_wp2_with fail
     have e1 : (k : Int) + 1 = ((k + 1 : Nat) : Int) := by omega
     rw [e1]
     refine ⟨⟨k + 1, HR.out.2.2.1, rfl, HBD.out, fun i hi => ?_⟩, ?_⟩
     ·
      by_cases e : i = k
      ·
       rw [e, HR.out.2.2.2.1, HR.out.2.2.2.2.1, HAB.out]
      ·
       exact HR.out.2.1 i (by omega)
     ·
      have h := HR.out.2.2.1
      show m.length - (k + 1) < m.length - k
      omega
    ·
     have hd : decide (a = b) = false := by simp [hab]
     have HAB := Lib.hid (show l ≠ m from fun e => hab (by
      have h1 := HR.out.2.2.2.1
      rw [e, HR.out.2.2.2.2.1] at h1
      exact (Option.some.inj h1).symm))
     clear hab
     refine tk 0 (.slice (some ⟨g, off, none⟩) m.length c) 17 rfl rfl hcur ?_
     refine tk 1 (.int .i64 k) 18 rfl rfl hcur ?_
     refine tk 2 (.pointer (some ⟨g, off + k * 35, none⟩)) 19 rfl rfl hcur ?_ (by intro w' hS'; unfold execOp; simp [go_sem, m0, m1])
     refine tk 3 (.agg va) 20 rfl rfl hcur ?_ (by intro w' hS'; exact exec_loadM 75 _ rfl _ _ rfl va hS'.1 Tryz.underlying75 rfl HI.out.1)
     refine tk 4 (.slice (some ⟨g', off', none⟩) m.length e) 21 rfl rfl hcur ?_
     refine tk 5 (.int .i64 k) 22 rfl rfl hcur ?_
     refine tk 6 (.pointer (some ⟨g', off' + k * 35, none⟩)) 23 rfl rfl hcur ?_ (by intro w' hS'; unfold execOp; simp [go_sem, m0, m1])
     refine tk 7 (.agg vb) 24 rfl rfl hcur ?_ (by intro w' hS'; exact exec_loadM 75 _ rfl _ _ rfl vb hS'.2 Tryz.underlying75 rfl HI.out.2)
     refine tk 8 (.bool true) 25 rfl rfl hcur ?_ (by intro w' hS'; unfold execOp; simp [go_sem, heq, hd])
     refine wpAnyH_done (by kernel_rfl) ?_ _
     unfold NoPanic
     dsimp only
     clear hcur heq hd
     go_wp2_with fail
     go_ret
     refine ⟨?_, HBD.out⟩
     rw [decide_eq_false HAB.out]
     rfl
   ·
    have e1 : k = m.length := by omega
    have HF := Lib.hid (And.intro hb (show l = m from List.ext_getElem? fun i => by
     by_cases hi : i < k
     ·
      exact hall i hi
     ·
      rw [List.getElem?_eq_none (by omega), List.getElem?_eq_none (by omega)]))
    have m1 : ¬ (k : Int) < (m.length : Int) := by omega
    clear hb hall e1 hk hlt hlen
    go_wp2_with fail
    go_ret
    refine ⟨?_, HF.out.1⟩
    rw [decide_eq_true HF.out.2]
    rfl
 ·
  have hne : ¬ (l.length : Int) = (m.length : Int) := by omega
  have HN := Lib.hid (show l ≠ m from fun e => hlen (by rw [e]))
  clear hlen
  go_enter Tryz.func28, Tryz.ntmps28
  go_wp2_with fail
  go_ret
  refine ⟨?_, Below.refl _ _⟩
  rw [decide_eq_false HN.out]
  rfl
end Go.Proofs.YtjngghihciimjaaGreat
namespace Go.Proofs.YtjngghihciimjaaGreat
set_option maxRecDepth 100000
open Go.RowKit Go.Sort
structure Va where
 coin : Int
 pa : Option Addr
 l : List As
 c : Nat
def vaC (v : Va) : Array Value := vC v.coin v.pa v.l.length v.c
theorem vaC_size (v : Va) : (vaC v).size = 2 := rfl
theorem vaC_one (v : Va) : (vaC v).all (·.oneCell') = true := by simp [vaC, vC, Value.oneCell']
theorem info_value : (Tryz.prog.info? 24).map (·.size) = some 2 := by kernel_rfl
def VaOk (w : World) (v : Va) : Prop := -9223372036854775808 ≤ v.coin ∧ v.coin < 9223372036854775808 ∧ Row w v.pa v.l
def HasV (w : World) (g off : Nat) (vs : List Va) : Prop := ∀ (i : Nat) (v : Va), vs[i]? = some v → w.rangeAt g (off + i * 2) (vaC v).toList ∧ VaOk w v
theorem HasV.below {B : Nat} {w w' : World} {g off : Nat} {vs : List Va} (h : HasV w g off vs) (hb : Below B w w') (hg : g < B) (hB : w.heap.size ≤ B) : HasV w' g off vs :=
 fun i v hi => ⟨fun j x hj => (hb.cell (p := ⟨g, off + i * 2 + j, none⟩) hg).trans ((h i v hi).1 j x hj), (h i v hi).2.1, (h i v hi).2.2.1, (h i v hi).2.2.2.below hb hB⟩
def RowV (w : World) (pa : Option Addr) (vs : List Va) : Prop := vs.length ≤ maxLen ∧ (0 < vs.length → ∃ g off, pa = some ⟨g, off, none⟩ ∧ g < w.heap.size ∧ HasV w g off vs)
theorem RowV.below {B : Nat} {w w' : World} {pa : Option Addr} {vs : List Va} (h : RowV w pa vs) (hb : Below B w w') (hB : w.heap.size ≤ B) : RowV w' pa vs :=
 ⟨h.1, fun hl => by
  obtain ⟨g, off, e, hg, hh⟩ := h.2 hl
  exact ⟨g, off, e, Nat.lt_of_lt_of_le hg hb.size, hh.below hb (Nat.lt_of_lt_of_le hg hB) hB⟩⟩
structure Vr where
 pa : Option Addr
 vs : List Va
 c : Nat
def RowR (w : World) (pa : Option Addr) (rs : List Vr) : Prop := rs.length ≤ maxLen ∧ (0 < rs.length → ∃ g off, pa = some ⟨g, off, none⟩ ∧ g < w.heap.size ∧ ∀ (i : Nat) (r : Vr), rs[i]? = some r → w.cell? ⟨g, off + i, none⟩ = some (.slice r.pa r.vs.length r.c) ∧ RowV w r.pa r.vs)
end Go.Proofs.YtjngghihciimjaaGreat
namespace Go.Proofs.YtjngghihciimjaaGreat
set_option maxRecDepth 100000
open Go.RowKit Go.Sort
def Fault (e : Ending) : Prop := ∃ n, e = .panicked [{ v := .iface 139 (.int .i64 n), recovered := false }]
def rightV (v : Va) : Bool := rightB v.coin v.l
def Musts (vs : List Va) (e : Ending) : Prop := (vs.all rightV = true ∧ ∃ v, e = .returned v) ∨ (vs.all rightV = false ∧ Fault e)
set_option maxHeartbeats 4000000 in
theorem mustRight_any (w : World) (pa : Option Addr) (vs : List Va) (c : Nat) (h : RowV w pa vs) :
    Calls Tryz.prog 51 #[.slice pa vs.length c] w fun e w' => Musts vs e ∧ Below w.heap.size w w' := by
  have hli : (vs.length : Int) ≤ 9223372036854775807 := by have := h.1; unfold maxLen at this; omega
  have H := Lib.hid h
  clear h
  go_enter Tryz.func51, Tryz.ntmps51
  go_wp2_with fail
  go_loopw [6] (fun i W => ∃ k : Nat, k ≤ vs.length ∧ i = .int .i64 k ∧ Below w.heap.size w W ∧ ∀ (i : Nat) (v : Va), i < k → vs[i]? = some v → rightV v = true) (fun i _ => vs.length - (intOf i).toNat)
  case atStart => exact ⟨0, Nat.zero_le _, rfl, Below.refl _ _, fun i v hi => absurd hi (by omega)⟩
  case round =>
    obtain ⟨k, hk, rfl, hb, hall⟩ := hrel
    by_cases hlt : k < vs.length
    · have m1 : (k : Int) < (vs.length : Int) := by omega
      have m0 : (0 : Int) ≤ (k : Int) := by omega
      obtain ⟨g, off, rfl, hg, hh⟩ := H.out.2 (by omega)
      obtain ⟨v, hv⟩ : ∃ v, v = vs[k] := ⟨_, rfl⟩
      have hkv : vs[k]? = some v := by rw [hv, List.getElem?_eq_getElem hlt]
      have hvv := hh.below hb hg (Nat.le_refl _) k v hkv
      have c0 := hvv.1 0 (.int .i64 v.coin) rfl
      have c1 := hvv.1 1 (.slice v.pa v.l.length v.c) rfl
      have HC : Hid (∀ W, Below w.heap.size w W → Calls Tryz.prog 14 #[.agg #[.int .i64 v.coin, .slice v.pa v.l.length v.c]] W fun e w' => e = .returned (.bool (rightV v)) ∧ Below W.heap.size W w') := Lib.hid fun W hW =>
        right_any W v.coin v.pa v.l v.c ((hh k v hkv).2.2.2.below hW (Nat.le_refl _))
      have HR := Lib.hid (And.intro hb (And.intro hall (And.intro hlt hkv)))
      rw [Nat.add_zero] at c0
      clear hv hkv hvv hg hh hb hlt hk hall
      cases hr : rightV v with
      | true =>
        rw [hr] at HC
        have hW : Below w.heap.size w (wr.alloc (.cells #[.int .i64 v.coin, .slice v.pa v.l.length v.c] 24)) := HR.out.1.alloc HR.out.1.size _
        have HW := Lib.hid hW
        clear hW
        go_wp2_with fail
        refine (HC.out _ HW.out).mono ?_
        rintro e w2 ⟨rfl, hb2⟩
        have HB2 := Lib.hid (HW.out.trans (hb2.mono HW.out.size))
        clear hb2 c0 c1
        go_wp2_with fail
        have e1 : (k : Int) + 1 = ((k + 1 : Nat) : Int) := by omega
        rw [e1]
        refine ⟨⟨k + 1, HR.out.2.2.1, rfl, HB2.out, fun i x hi hx => ?_⟩, ?_⟩
        · by_cases e : i = k
          · subst e
            have h1 := HR.out.2.2.2
            rw [hx] at h1
            rw [Option.some.inj h1]
            exact hr
          · exact HR.out.2.1 i x (by omega) hx
        · have h := HR.out.2.2.1
          show vs.length - (k + 1) < vs.length - k
          omega
      | false =>
        rw [hr] at HC
        have hW : Below w.heap.size w (wr.alloc (.cells #[.int .i64 v.coin, .slice v.pa v.l.length v.c] 24)) := HR.out.1.alloc HR.out.1.size _
        have HW := Lib.hid hW
        clear hW
        have HF := Lib.hid (show vs.all rightV = false by
          rw [List.all_eq_false]
          exact ⟨v, List.mem_of_getElem? HR.out.2.2.2, by rw [hr]; simp⟩)
        clear hr
        go_wp2_with fail
        refine (HC.out _ HW.out).mono ?_
        rintro e w2 ⟨rfl, hb2⟩
        have HB2 := Lib.hid (HW.out.trans (hb2.mono HW.out.size))
        clear hb2 c0 c1
        go_wp2_with fail
        exact ⟨rfl, .inr ⟨HF.out, 2, rfl⟩, HB2.out⟩
    · have m1 : ¬ (k : Int) < (vs.length : Int) := by omega
      have HB := Lib.hid (And.intro hb (show vs.all rightV = true by
        rw [List.all_eq_true]
        intro v hv
        obtain ⟨i, hi⟩ := List.getElem?_of_mem hv
        exact hall i v (by have := (List.getElem?_eq_some_iff.1 hi).1; omega) hi))
      clear hb hlt hk hall
      go_wp2_with fail
      go_end0
      exact ⟨.inl ⟨HB.out.2, _, rfl⟩, HB.out.1⟩
def Amounts (x : BitVec 128) (e : Ending) : Prop := (fitsW x = true ∧ e = .returned (.int .i64 x.toNat)) ∨ (fitsW x = false ∧ Fault e)
set_option maxHeartbeats 1000000 in
theorem amounts_any (w : World) (x : BitVec 128) :
    Calls Tryz.prog 86 #[wv x] w fun e w' => Amounts x e ∧ Below w.heap.size w w' := by
  cases hx : fitsW x with
  | true => exact (amount_any w x hx).mono fun e w' h => ⟨.inl ⟨hx, h.1⟩, h.2⟩
  | false =>
    have hno : ¬ (hiS x = 0 ∧ loN x < 9223372036854775808) := fun h => by rw [(fits_halves x).2 h] at hx; exact absurd hx (by decide)
    have hb1 : Below w.heap.size w (w.alloc (.cells #[.int .i64 (hiS x), .int .u64 (loN x)] 48)) := (Below.refl _ _).alloc (Nat.le_refl _) _
    have H := Lib.hid (And.intro hx hb1)
    unfold wv
    clear hx hb1
    by_cases h0 : hiS x = 0
    · have hlo : (9223372036854775807 : Int) < (loN x : Int) := by
        have : ¬ loN x < 9223372036854775808 := fun h => hno ⟨h0, h⟩
        omega
      rw [h0] at H ⊢
      clear hno h0
      generalize loN x = lo at hlo H ⊢
      go_enter Tryz.func86, Tryz.ntmps86
      go_wp2
      exact ⟨rfl, .inr ⟨H.out.1, 9, rfl⟩, H.out.2⟩
    · clear hno
      generalize hiS x = hi at h0 H ⊢
      generalize loN x = lo at H ⊢
      go_enter Tryz.func86, Tryz.ntmps86
      go_wp2
      exact ⟨rfl, .inr ⟨H.out.1, 9, rfl⟩, H.out.2⟩
end Go.Proofs.YtjngghihciimjaaGreat
namespace Go.Proofs.YtjngghihciimjaaGreat
set_option maxRecDepth 100000
open Go.RowKit Go.Sort Go.Maps
theorem laidOut : laidOutB Tryz.prog = true := by kernel_rfl
theorem row68 : (86 : TypeId) < Tryz.prog.types.size := of_decide_eq_true (by kernel_rfl)
theorem wide68 : (match Tryz.prog.underlying 86 with | some (.array _ _) | some (.struct _) => true | _ => false) = true := by rw [Tryz.underlying86]
theorem keyedName : Keyed Tryz.prog 86 := Keyed.of_law (deep_law_laid laidOut (m := 5) (by omega) row68 keyed_called wide68)
def kN (n : Nm) : Lit := .string (keyBytes (litN n))
theorem key_nm (n : Nm) (h : n.1.length = 32) (ht : n.2.length ≤ maxLen) : keyOf Tryz.prog 86 (.agg (nmC n)) = some (kN n) := by
 obtain ⟨d, hd⟩ : ∃ d, Tryz.prog.types.size + 1 = d + 3 := ⟨Tryz.prog.types.size - 2, by have : 2 ≤ Tryz.prog.types.size := of_decide_eq_true (by kernel_rfl); omega⟩
 have hk : Tryz.prog.keyType 86 = true := by kernel_rfl
 unfold keyOf
 rw [Tryz.underlying86]
 simp only [hk, formed_nm n h, Bool.and_self, if_true, hd]
 rw [show (Value.agg (nmC n)).cells.toList = (nmC n).toList from rfl, lits_nm d n h ht]
 rfl
theorem kN_inj {a b : Nm} (ha : a.1.length = 32) (hb : b.1.length = 32) (ta : a.2.length ≤ maxLen) (tb : b.2.length ≤ maxLen) (h : kN a = kN b) : a = b := by
 unfold kN at h
 have h1 := keyLits_inj (lits_nm 0 a ha ta) (lits_nm 0 b hb tb) (by simpa using h)
 exact litN_inj ha hb h1
noncomputable def rdW (v : Value) : Option (DataW Unit × List MemPlace) := open Classical in if h : ∃ x, v = wv x then some (.lit (.int .u64 (Classical.choose h).toNat), []) else none
def dW (x : BitVec 128) : DataW Unit := .lit (.int .u64 x.toNat)
theorem rdW_wv (x : BitVec 128) : rdW (wv x) = some (dW x, []) := by
 have h : ∃ y, wv x = wv y := ⟨x, rfl⟩
 unfold rdW
 rw [dif_pos h, ← wv_inj (Classical.choose_spec h)]
 rfl
theorem dW_inj {x y : BitVec 128} (h : dW x = dW y) : x = y := by
 unfold dW at h
 simp only [DataW.lit.injEq, Lit.int.injEq, true_and] at h
 exact BitVec.eq_of_toNat_eq (by omega)
theorem rdW_inv {v : Value} {x : BitVec 128} {ps : List MemPlace} (h : rdW v = some (dW x, ps)) : v = wv x := by
 unfold rdW at h
 split at h
 ·
  rename_i hh
  have e := Classical.choose_spec hh
  simp only [Option.some.injEq, Prod.mk.injEq] at h
  rw [e, dW_inj (x := Classical.choose hh) h.1]
 ·
  cases h
def HoldsF (D : DataW Unit) (f : Nm → BitVec 128) : Prop := ∀ n : Nm, n.1.length = 32 → n.2.length ≤ maxLen → D.atKey (kN n) (dW 0) = dW (f n)
def addAt (f : Nm → BitVec 128) (n : Nm) (x : BitVec 128) : Nm → BitVec 128 := fun m => if m = n then f n + x else f m
theorem HoldsF.put {D : DataW Unit} {f : Nm → BitVec 128} (h : HoldsF D f) (hD : IsMap D) (n : Nm) (x : BitVec 128) (hn : n.1.length = 32) (ht : n.2.length ≤ maxLen) : HoldsF (D.put (kN n) (dW (f n + x))) (addAt f n x) := fun m hm hmt => by
 unfold addAt
 by_cases e : m = n
 ·
  subst e
  have hkk : WideAt.IsKeyLit (kN m) := trivial
  rw [atKey_put_same hD hkk]
  simp
 ·
  rw [atKey_put_other (fun k => e (kN_inj hm hn hmt ht k)), h m hm hmt]
  simp [e]
theorem under70 : Tryz.prog.underlying 121 = some (.map 86 48) := Tryz.underlying121
theorem zeroW (w : World) : (zeroValue 48).run Tryz.prog w = .ok (wv 0) w := by
 rw [wv_zero]
 kernel_rfl
end Go.Proofs.YtjngghihciimjaaGreat
namespace Go.Proofs.YtjngghihciimjaaGreat
set_option maxRecDepth 100000
open Go.RowKit Go.Sort Go.Maps
theorem grown_of {w w' : World} {r : Option Nat} (h : Below w.heap.size w w') : w.grownBy w' r := ⟨h.1, h.2, h.3, h.size, fun i hi _ => h.block i hi⟩
theorem grown_trans {w w' w'' : World} {r : Option Nat} (h : w.grownBy w' r) (k : w'.grownBy w'' r) : w.grownBy w'' r :=
 ⟨k.os.trans h.os, k.tape.trans h.tape, k.output.trans h.output, Nat.le_trans h.size k.size, fun i hi hr => (k.block i (Nat.lt_of_lt_of_le hi h.size) hr).trans (h.block i hi hr)⟩
def PutW (w w' : World) (b n : Nat) (D' : DataW Unit) : Prop := w'.ownsMap Tryz.prog 86 rdW b n D' ∧ w.grownBy w' (some b)
theorem wpOp_mapU {P : Program} {ops : Array Oper} {Q : Exit → Act → World → Prop} {i : Nat} {o : Oper} {a : Act} {w w' : World} {K : Act → World → Prop} (hi : ops[i]? = some o) (hg : o.guard = none) (m x v : Operand) (t : TypeId) (hop : o.op = Op.mapUpdate t m x v)
  (hrun : (Instr.mapUpdate t (a.eval m) (a.eval x) (a.eval v)).run P w = .ok () w') (h : K (a.put o.dst undef) w') : wpOp P ops Q i K a w := by
 refine wpOp_wp hi hg ?_
 unfold Oper.wp
 simp [execOp, hop, hrun, Result.andThen]
 exact h
set_option maxHeartbeats 2000000 in
theorem put_any (w : World) (b n : Nat) (D : DataW Unit) (f : Nm → BitVec 128) (nm : Nm) (x : BitVec 128) (hown : w.ownsMap Tryz.prog 86 rdW b n D) (hf : HoldsF D f) (hn : n < maxLen)
  (hnm : nm.1.length = 32) (ht : nm.2.length ≤ maxLen) :
  Calls Tryz.prog 67 #[.map (some b), .agg (nmC nm), wv x] w fun e w' => e = .returned (.tuple #[]) ∧ PutW w w' b (n + 1) (D.put (kN nm) (dW (f nm + x))) := by
 obtain ⟨nv, hnv⟩ : ∃ v, v = nmC nm := ⟨_, rfl⟩
 have hkey := key_nm nm hnm ht
 have hin : (Tryz.prog.info? 86).map (·.size) = some nv.size := by rw [hnv, nmC_size nm hnm]; exact info_called
 rw [← hnv] at hkey ⊢
 have hat := hf nm hnm ht
 have H := Lib.hid (And.intro hown (And.intro hn (And.intro hkey (And.intro hin hat))))
 clear hown hf hn hnm ht hnv hkey hin hat
 rw [wv_wC]
 unfold wC
 go_enter Tryz.func67, Tryz.ntmps67
 go_upto_region 1 with fail
 have hl1 : Lies ((w.alloc (.cells nv 86)).alloc (.cells #[.int .i64 (hiS x), .int .u64 (loN x)] 48)) w.heap.size nv 86 := (Lies.new _ _ _).alloc _
 have hl2 : Lies ((w.alloc (.cells nv 86)).alloc (.cells #[.int .i64 (hiS x), .int .u64 (loN x)] 48)) (w.heap.size + 1) #[.int .i64 (hiS x), .int .u64 (loN x)] 48 := by
  have := Lies.new (w.alloc (.cells nv 86)) #[.int .i64 (hiS x), .int .u64 (loN x)] 48
  simpa using this
 have hb0 : Below w.heap.size w ((w.alloc (.cells nv 86)).alloc (.cells #[.int .i64 (hiS x), .int .u64 (loN x)] 48)) := ((Below.refl _ _).alloc (Nat.le_refl _) _).alloc (by simp) _
 generalize (w.alloc (.cells nv 86)).alloc (.cells #[.int .i64 (hiS x), .int .u64 (loN x)] 48) = W0 at hl1 hl2 hb0 ⊢
 have HS : Hid (∀ V, Below W0.heap.size W0 V → Lies V w.heap.size nv 86 ∧ Lies V (w.heap.size + 1) #[.int .i64 (hiS x), .int .u64 (loN x)] 48) := Lib.hid fun V hV => ⟨hl1.below hV hl1.lt, hl2.below hV hl2.lt⟩
 have H0 := Lib.hid hb0
 clear hl1 hl2 hb0
 refine wp_region_noPanic (wp_region_held (S := fun V => Lies V w.heap.size nv 86 ∧ Lies V (w.heap.size + 1) #[.int .i64 (hiS x), .int .u64 (loN x)] 48) (by kernel_rfl) ?_)
 change wpAnyH _ _ _ _ _ 9 _ _ (World.drew W0)
 have hbd : Below W0.heap.size W0 W0.drew := (Below.refl _ _).drew
 generalize World.drew W0 = wd at hbd ⊢
 have hcur := HS.out _ hbd
 have hbw : Below w.heap.size w wd := H0.out.trans (hbd.mono H0.out.size)
 have hownd := H.out.1.kept (grown_of (r := none) hbw) (by simp)
 obtain ⟨v, ps, hrun, hv⟩ := hownd.lookup keyedName under70 (zeroW wd) (rdW_wv 0) H.out.2.2.1
 rw [H.out.2.2.2.2] at hv
 have hve := rdW_inv hv
 subst hve
 unfold wv at hrun
 refine tk 0 (.map (some b)) 6 rfl rfl hcur ?_
 refine tk 1 (.agg nv) 7 rfl rfl hcur ?_ (by intro w' hS'; exact exec_loadM 86 _ rfl _ _ rfl nv (range_lies hS'.1) Tryz.underlying86 rfl H.out.2.2.2.1)
 refine tk 2 (.map (some b)) 8 rfl rfl hcur ?_
 refine tk 3 (.agg nv) 9 rfl rfl hcur ?_ (by intro w' hS'; exact exec_loadM 86 _ rfl _ _ rfl nv (range_lies hS'.1) Tryz.underlying86 rfl H.out.2.2.2.1)
 refine tk 5 (.agg #[.int .i64 (hiS x), .int .u64 (loN x)]) 11 rfl rfl hcur ?_ (by intro w' hS'; exact exec_loadM 48 _ rfl _ _ rfl #[.int .i64 (hiS x), .int .u64 (loN x)] (range_lies hS'.2) Tryz.underlying48 rfl info_wide)
 refine held_one (i := 4) (by kernel_rfl) _ rfl (wpOp_valG (v := .agg #[.int .i64 (hiS (f nm)), .int .u64 (loN (f nm))]) (w' := wd) rfl (by rfl) 10 rfl (by unfold execOp; simp [go_sem, hrun]) ?_)
 refine ⟨hcur, ?_⟩
 simp only [Act.put, List.setIfInBounds_toArray, List.set_cons_zero, List.set_cons_succ]
 refine held_one (i := 6) (by kernel_rfl) _ rfl (wpOp_valG (v := .slice (some ⟨wd.heap.size, 0, none⟩) 2 2) (w' := wd.alloc (.cells #[.int .i64 (hiS (f nm)), .int .u64 (loN (f nm)), .int .i64 (hiS x), .int .u64 (loN x)] 48)) rfl (by rfl) 12 rfl (by unfold execOp; simp [go_sem]) ?_)
 have hb6 : Below wd.heap.size wd (wd.alloc (.cells #[.int .i64 (hiS (f nm)), .int .u64 (loN (f nm)), .int .i64 (hiS x), .int .u64 (loN x)] 48)) := (Below.refl _ _).alloc (Nat.le_refl _) _
 have hl6 : Lies (wd.alloc (.cells #[.int .i64 (hiS (f nm)), .int .u64 (loN (f nm)), .int .i64 (hiS x), .int .u64 (loN x)] 48)) wd.heap.size #[.int .i64 (hiS (f nm)), .int .u64 (loN (f nm)), .int .i64 (hiS x), .int .u64 (loN x)] 48 := Lies.new _ _ _
 generalize wd.alloc (.cells #[.int .i64 (hiS (f nm)), .int .u64 (loN (f nm)), .int .i64 (hiS x), .int .u64 (loN x)] 48) = w6 at hb6 hl6 ⊢
 have hb6' := hbd.trans (hb6.mono hbd.size)
 have hcur := HS.out _ hb6'
 refine ⟨hcur, ?_⟩
 simp only [Act.put, List.setIfInBounds_toArray, List.set_cons_zero, List.set_cons_succ]
 have hhas : HasW w6 wd.heap.size 0 [f nm, x] := fun i y hy j v hv => by
  have hr := range_lies hl6
  have hi : i = 0 ∨ i = 1 := by have := (List.getElem?_eq_some_iff.1 hy).1; simp at this; omega
  have hj : j < 2 := (List.getElem?_eq_some_iff.1 hv).1
  rcases hi with rfl | rfl
  ·
   simp only [List.getElem?_cons_zero, Option.some.injEq] at hy
   subst hy
   have := hr j v (by
    have hj' : j = 0 ∨ j = 1 := by omega
    rcases hj' with rfl | rfl <;> exact hv)
   simpa using this
  ·
   simp only [List.getElem?_cons_succ, List.getElem?_cons_zero, Option.some.injEq] at hy
   subst hy
   have := hr (2 + j) v (by
    have hj' : j = 0 ∨ j = 1 := by omega
    rcases hj' with rfl | rfl <;> exact hv)
   simpa using this
 have hplus := plus_any w6 wd.heap.size 0 2 [f nm, x] (show 2 ≤ maxLen by decide) hl6.lt hhas
 rw [show sumL [f nm, x] = f nm + x by simp [sumL]] at hplus
 refine held_one (i := 7) (by kernel_rfl) _ rfl (wpOp_callG rfl (by rfl) 13 rfl 36 #[.slice (some ⟨wd.heap.size, 0, none⟩) 2 2] (by unfold execOp; simp [go_sem]) _ (ret_of hplus) ?_)
 rintro v7 w7 ⟨rfl, hb7⟩
 have hb7' := hb6'.trans (hb7.mono hb6'.size)
 have hcur := HS.out _ hb7'
 refine ⟨hcur, ?_⟩
 simp only [Act.put, List.setIfInBounds_toArray, List.set_cons_zero, List.set_cons_succ]
 have hbw7 : Below w.heap.size w w7 := H0.out.trans (hb7'.mono H0.out.size)
 have hown7 := H.out.1.kept (grown_of (r := none) hbw7) (by simp)
 obtain ⟨w8, hrun8, hown8, hgr8⟩ := hown7.update keyedName under70 H.out.2.1 H.out.2.2.1 (rdW_wv (f nm + x))
 have hall := grown_trans (grown_of hbw7 : w.grownBy w7 (some b)) hgr8
 have hbl := H.out.1.lt
 have hS8 : Lies w8 w.heap.size nv 86 ∧ Lies w8 (w.heap.size + 1) #[.int .i64 (hiS x), .int .u64 (loN x)] 48 :=
  ⟨(hgr8.block _ hcur.1.lt (by simp; omega)).trans hcur.1, (hgr8.block _ hcur.2.lt (by simp; omega)).trans hcur.2⟩
 refine held_one (i := 8) (by kernel_rfl) _ rfl (wpOp_mapU rfl rfl _ _ _ 121 rfl hrun8 ?_)
 refine ⟨hS8, ?_⟩
 simp only [Act.put, List.setIfInBounds_toArray, List.set_cons_zero, List.set_cons_succ]
 refine wpAnyH_done (by kernel_rfl) ?_ _
 unfold NoPanic
 dsimp only
 go_end0
 exact ⟨rfl, hown8, hall⟩
end Go.Proofs.YtjngghihciimjaaGreat
namespace Go.Proofs.YtjngghihciimjaaGreat
set_option maxRecDepth 100000
open Go.RowKit Go.Sort Go.Maps
def ctsOf (v : Va) : List Ct := v.l.map fun a => (a.nm, wide a.amt)
def ctsL (vs : List Va) : List Ct := vs.flatMap ctsOf
def coinS (vs : List Va) : BitVec 128 := sumL (vs.map fun v => wide v.coin)
theorem addAt_sumAt (L : List Ct) (n : Nm) (x : BitVec 128) : addAt (sumAt L) n x = sumAt (L ++ [(n, x)]) := by
 funext m
 rw [sumAt_append]
 unfold addAt
 by_cases h : m = n
 ·
  subst h
  simp [sumAt]
 ·
  rw [if_neg h]
  have : ¬ n = m := fun e => h e.symm
  simp [sumAt, this]
theorem ctsL_take {vs : List Va} {k : Nat} {v : Va} (h : vs[k]? = some v) : ctsL (vs.take (k + 1)) = ctsL (vs.take k) ++ ctsOf v := by
 unfold ctsL
 rw [List.take_add_one, h, List.flatMap_append]
 simp
theorem ctsOf_take {v : Va} {j : Nat} {a : As} (h : v.l[j]? = some a) : (ctsOf v).take (j + 1) = (ctsOf v).take j ++ [(a.nm, wide a.amt)] := by
 unfold ctsOf
 rw [List.take_add_one, List.getElem?_map, h]
 rfl
theorem coinS_take {vs : List Va} {k : Nat} {v : Va} (h : vs[k]? = some v) : coinS (vs.take (k + 1)) = coinS (vs.take k) + wide v.coin := by
 unfold coinS
 rw [List.take_add_one, h, List.map_append]
 unfold sumL
 rw [List.foldl_append]
 rfl
theorem ctsL_le {vs : List Va} {k : Nat} {v : Va} {j : Nat} (h : vs[k]? = some v) (hj : j ≤ v.l.length) : (ctsL (vs.take k) ++ (ctsOf v).take j).length ≤ (ctsL vs).length := by
 have h1 : ctsL vs = ctsL (vs.take (k + 1)) ++ ctsL (vs.drop (k + 1)) := by
  unfold ctsL
  rw [← List.flatMap_append, List.take_append_drop]
 rw [h1, ctsL_take h]
 simp [ctsOf]
 omega
def Fresh (B : Nat) (pa : Option Addr) : Prop := ∀ a, pa = some a → B ≤ a.block
def RoomT (B : Nat) (w : World) (pa : Option Addr) (n c : Nat) : Prop := (pa = none ∧ n = 0 ∧ c = 0) ∨ ∃ g, pa = some ⟨g, 0, none⟩ ∧ n ≤ c ∧ c ≤ maxLen ∧ B ≤ g ∧ ∃ cs, Lies w g cs 75 ∧ cs.size = c * 35
theorem RoomT.mono {B B' : Nat} {w : World} {pa : Option Addr} {n c : Nat} (h : RoomT B w pa n c) (hb : B' ≤ B) : RoomT B' w pa n c := by
 rcases h with h | ⟨g, h1, h2, h3, h4, h5⟩
 ·
  exact .inl h
 ·
  exact .inr ⟨g, h1, h2, h3, Nat.le_trans hb h4, h5⟩
theorem RoomT.below {B : Nat} {w u : World} {pa : Option Addr} {n c : Nat} (h : RoomT B w pa n c) (hb : Below w.heap.size w u) : RoomT B u pa n c := by
 rcases h with h | ⟨g, h1, h2, h3, h4, cs, h5, h6⟩
 ·
  exact .inl h
 ·
  exact .inr ⟨g, h1, h2, h3, h4, cs, h5.below hb h5.lt, h6⟩
theorem RoomT.setRow {B : Nat} {w : World} {pa : Option Addr} {n c : Nat} (h : RoomT B w pa n c) {b : Nat} (hb : b < B) (cs' : Array Value) : RoomT B (w.setRow b cs') pa n c := by
 rcases h with h | ⟨g, h1, h2, h3, h4, cs, h5, h6⟩
 ·
  exact .inl h
 ·
  exact .inr ⟨g, h1, h2, h3, h4, cs, h5.setRowOther _ _ (by omega), h6⟩
def TotRes (f : Nm → BitVec 128) (W : World) (e : Ending) (w' : World) : Prop := ∃ pa l c, e = .returned (.slice pa l.length c) ∧ RowT w' pa l ∧ IsTot f (l.map fun t => (t.nm, t.w)) ∧ Below W.heap.size W w' ∧ Fresh W.heap.size pa ∧ RoomT W.heap.size w' pa l.length c
def TotalsAt : Prop := ∀ (W : World) (b n : Nat) (D : DataW Unit) (f : Nm → BitVec 128), W.ownsMap Tryz.prog 86 rdW b n D → HoldsF D f → n ≤ 1000000 → (∀ m : Nm, f m ≠ 0 → m.1.length = 32 ∧ m.2.length ≤ 281474976710656) → Calls Tryz.prog 68 #[.map (some b)] W (TotRes f W)
structure OnWay (w W : World) (s : BitVec 128) (L : List Ct) : Prop where
 below : Below w.heap.size w W
 res : Lies W w.heap.size #[.int .i64 0, .int .u64 0] 48
 map : ∃ D, W.ownsMap Tryz.prog 86 rdW (w.heap.size + 1) L.length D ∧ HoldsF D (sumAt L)
 sum : Lies W (w.heap.size + 1 + 1) (wC s) 48
theorem plus_two (w : World) (g : Nat) (s x : BitVec 128) (hl : Lies w g #[.int .i64 (hiS s), .int .u64 (loN s), .int .i64 (hiS x), .int .u64 (loN x)] 48) :
  Calls Tryz.prog 36 #[.slice (some ⟨g, 0, none⟩) 2 2] w fun e w' => e = .returned (wv (s + x)) ∧ Below w.heap.size w w' := by
 have hhas : HasW w g 0 [s, x] := fun i y hy j v hv => by
  have hr := range_lies hl
  have hi : i = 0 ∨ i = 1 := by have := (List.getElem?_eq_some_iff.1 hy).1; simp at this; omega
  have hj : j < 2 := (List.getElem?_eq_some_iff.1 hv).1
  rcases hi with rfl | rfl
  ·
   simp only [List.getElem?_cons_zero, Option.some.injEq] at hy
   subst hy
   have := hr j v (by
    have hj' : j = 0 ∨ j = 1 := by omega
    rcases hj' with rfl | rfl <;> exact hv)
   simpa using this
  ·
   simp only [List.getElem?_cons_succ, List.getElem?_cons_zero, Option.some.injEq] at hy
   subst hy
   have := hr (2 + j) v (by
    have hj' : j = 0 ∨ j = 1 := by omega
    rcases hj' with rfl | rfl <;> exact hv)
   simpa using this
 have hplus := plus_any w g 0 2 [s, x] (show 2 ≤ maxLen by decide) hl.lt hhas
 rw [show sumL [s, x] = s + x by simp [sumL]] at hplus
 exact hplus
theorem OnWay.sumTo {w W : World} {s : BitVec 128} {L : List Ct} (h : OnWay w W s L) (x : BitVec 128) : OnWay w (W.setRow (w.heap.size + 1 + 1) (wC x)) x L := by
 obtain ⟨D, h1, h2⟩ := h.map
 exact ⟨below_setRow h.below _ _ (by omega), h.res.setRowOther _ _ (by omega), ⟨D, h1.kept (row := some (w.heap.size + 1 + 1)) ⟨rfl, rfl, rfl, by simp, fun k _ hk => setRow_other W _ k _ (fun e => hk (by rw [e]))⟩ (by simp), h2⟩, h.sum.setRow _⟩
theorem wpOp_storeRow {P : Program} {ops : Array Oper} {Q : Exit → Act → World → Prop} {i : Nat} {o : Oper} {a : Act} {w : World} {K : Act → World → Prop} (hi : ops[i]? = some o) (hgd : o.guard = none) (ty : TypeId) (x y : Operand) (ho : o.op = .store ty x y)
  (g : Nat) (cells : Array Value) (hx : a.eval x = .pointer (some ⟨g, 0, none⟩)) (hy : a.eval y = .agg cells) (t : TypeId) (old : Array Value) (hg : w.heap[g]? = some (.cells old t (0, 0))) (hs : (P.info? ty).map (·.size) = some cells.size)
  (hold : old.size = cells.size) (h1 : cells.all (·.oneCell') = true) (h : K (a.put o.dst undef) (w.setRow g cells)) : wpOp P ops Q i K a w :=
 wpOp_wp hi hgd (wp_store_row ty x y ho g cells hx hy t old hg hs hold h1 h)
theorem sumAt_mem : ∀ {L : List Ct} {m : Nm}, sumAt L m ≠ 0 → ∃ p, p ∈ L ∧ p.1 = m
  | [], m, h => absurd rfl h
  | p :: L, m, h => by
    by_cases e : p.1 = m
    · exact ⟨p, by simp, e⟩
    · have h2 : sumAt L m ≠ 0 := fun e2 => h (by simp [sumAt, e, e2])
      obtain ⟨q, hq, e3⟩ := sumAt_mem h2
      exact ⟨q, by simp [hq], e3⟩
theorem results_row_tmp {P : Program} {fn : Func} {p u : Tmp} {ty : TypeId} (h : fn.results = #[.cell p ty, .tmp u]) (tmps : Array Value) (w : World) (g : Nat) (t : TypeId) (cs : Array Value) (fr : Nat × Nat) (d : TypeDesc)
  (hp : tmps.getD p undef = .pointer (some ⟨g, 0, none⟩)) (hg : w.heap[g]? = some (.cells cs t fr))
  (hu : P.underlying ty = some d) (hd : (match d with | .struct _ | .array _ _ => true | _ => false) = true) (hi : (P.info? ty).map (·.size) = some cs.size) :
  (results fn tmps).run P w = .ok (.tuple #[.agg cs, tmps.getD u undef]) w := by
 have hp' : tmps[p]?.getD undef = .pointer (some ⟨g, 0, none⟩) := by simpa using hp
 simp [results, h, hp', asAddr, run_loadVar_row w g t ty cs fr d hg hu hd hi]
theorem HoldsF.none : HoldsF (.map []) (sumAt []) := fun _ _ _ => rfl
theorem OnWay.step {w W W' : World} {s : BitVec 128} {L : List Ct} (h : OnWay w W s L) (hb : Below W.heap.size W W') : OnWay w W' s L := by
 obtain ⟨D, h1, h2⟩ := h.map
 exact ⟨h.below.trans (hb.mono h.below.size), h.res.below hb h.res.lt, ⟨D, h1.kept (grown_of (r := none) hb) (by simp), h2⟩, h.sum.below hb h.sum.lt⟩
theorem OnWay.put {w W W' : World} {s : BitVec 128} {L : List Ct} (h : OnWay w W s L) {D : DataW Unit} (hf : HoldsF D (sumAt L)) (hD : IsMap D) (n : Nm) (x : BitVec 128) (hn : n.1.length = 32) (ht : n.2.length ≤ maxLen)
  (hp : PutW W W' (w.heap.size + 1) (L.length + 1) (D.put (kN n) (dW (sumAt L n + x)))) : OnWay w W' s (L ++ [(n, x)]) := by
 obtain ⟨h1, h2⟩ := hp
 have hb : Below w.heap.size W W' := ⟨h2.os, h2.tape, h2.output, h2.size, fun i hi => h2.block i (Nat.lt_of_lt_of_le hi h.below.size) (by simp; omega)⟩
 refine ⟨h.below.trans hb, (h2.block _ h.res.lt (by simp)).trans h.res, ⟨D.put (kN n) (dW (sumAt L n + x)), ?_, ?_⟩, (h2.block _ h.sum.lt (by simp)).trans h.sum⟩
 ·
  rw [List.length_append]; exact h1
 ·
  rw [← addAt_sumAt]; exact hf.put hD n x hn ht
def SumsRes (vs : List Va) (w' : World) (e : Ending) : Prop := ∃ p l c', e = .returned (.tuple #[wv (coinS vs), .slice p l.length c']) ∧ RowT w' p l ∧ IsTot (sumAt (ctsL vs)) (l.map fun t => (t.nm, t.w))
def SumsResR (vs : List Va) (B : Nat) (w' : World) (e : Ending) : Prop := ∃ p l c', e = .returned (.tuple #[wv (coinS vs), .slice p l.length c']) ∧ RowT w' p l ∧ IsTot (sumAt (ctsL vs)) (l.map fun t => (t.nm, t.w)) ∧ Fresh B p ∧ RoomT B w' p l.length c'
def SumsResF (vs : List Va) (B : Nat) (w' : World) (e : Ending) : Prop := ∃ p l c', e = .returned (.tuple #[wv (coinS vs), .slice p l.length c']) ∧ RowT w' p l ∧ IsTot (sumAt (ctsL vs)) (l.map fun t => (t.nm, t.w)) ∧ Fresh B p
end Go.Proofs.YtjngghihciimjaaGreat
namespace Go.Proofs.YtjngghihciimjaaGreat
set_option maxRecDepth 100000
open Go.RowKit Go.Sort Go.Maps
theorem mapM_inv {α β : Type} {f : α → Option β} : ∀ {is : List α} {ls : List β}, is.mapM f = some ls → ∀ i, i ∈ is → ∃ y, f i = some y
  | [], _, _, i, hi => by simp at hi
  | j :: is, ls, h, i, hi => by
    rw [List.mapM_cons] at h
    simp only [bind, Option.bind_eq_some_iff, pure, Option.some.injEq] at h
    obtain ⟨y, hy, ys, hys, _⟩ := h
    rcases List.mem_cons.1 hi with rfl | hi
    · exact ⟨y, hy⟩
    · exact mapM_inv hys i hi
theorem lit8_inv {d : Nat} {cs : List Value} {l : List Lit} (h : Tryz.prog.keyLits (d + 1) 5 cs = some l) : ∃ b : UInt8, cs = [.int .u8 b.toNat] := by
  unfold Program.keyLits at h
  rw [Tryz.underlying5] at h
  split at h
  all_goals first
    | (rename_i q q' n hq
       split at h
       · rename_i hw
         simp only [Option.some.injEq, TypeDesc.int.injEq] at hq
         obtain ⟨rfl, hw⟩ := hw
         subst hq
         have h2 : (decide ((0 : Int) ≤ n) && decide (n ≤ 255)) = true := hw
         rw [Bool.and_eq_true_iff, decide_eq_true_iff, decide_eq_true_iff] at h2
         refine ⟨UInt8.ofNat n.toNat, ?_⟩
         have : ((UInt8.ofNat n.toNat).toNat : Int) = n := by simp; omega
         rw [this]
       · cases h)
    | (simp_all; done)
theorem litT_inv {d : Nat} {cs : List Value} {l : List Lit} (h : Tryz.prog.keyLits (d + 1) 9 cs = some l) : ∃ t : List UInt8, t.length ≤ maxLen ∧ cs = [.string (txt t)] := by
  unfold Program.keyLits at h
  rw [Tryz.underlying9] at h
  split at h
  all_goals first
    | (rename_i q sx hq
       split at h
       · rename_i hw
         refine ⟨sx.data.toList, ?_, ?_⟩
         · rw [Array.length_toList]; exact hw
         · show _ = [Value.string ⟨sx.data.toList.toArray⟩]
           rw [Array.toArray_toList]
       · cases h)
    | (simp_all; done)
theorem litsH_inv {d : Nat} {cs : List Value} {l : List Lit} (h : Tryz.prog.keyLits (d + 2) 26 cs = some l) : ∃ p : List UInt8, p.length = 32 ∧ cs = (B8 p).toList := by
 unfold Program.keyLits at h
 simp only [Tryz.underlying26, cells26, cells5] at h
 split at h
 ·
  rename_i hl
  rw [Option.map_eq_some_iff] at h
  obtain ⟨ls, hm, _⟩ := h
  have hall : ∀ i, i < 32 → ∃ b : UInt8, cs[i]? = some (.int .u8 b.toNat) := fun i hi => by
   obtain ⟨y, hy⟩ := mapM_inv hm i (List.mem_range.2 hi)
   obtain ⟨b, hb⟩ := lit8_inv hy
   refine ⟨b, ?_⟩
   rw [Nat.mul_one, List.drop_eq_getElem_cons (by omega), List.take_succ_cons, List.take_zero] at hb
   rw [List.getElem?_eq_getElem (by omega)]
   simpa using hb
  let g : Nat → UInt8 := fun i => if hi : i < 32 then Classical.choose (hall i hi) else 0
  have hg : ∀ i, i < 32 → cs[i]? = some (.int .u8 (g i).toNat) := fun i hi => by
   show cs[i]? = some (.int .u8 (if hi : i < 32 then Classical.choose (hall i hi) else 0 : UInt8).toNat)
   rw [dif_pos hi]
   exact Classical.choose_spec (hall i hi)
  refine ⟨(List.range 32).map g, by simp, List.ext_getElem? fun i => ?_⟩
  by_cases hi : i < 32
  ·
   rw [hg i hi, Array.getElem?_toList, B8_get _ i (by simpa using hi)]
   simp [hi]
  ·
   rw [List.getElem?_eq_none (by omega), List.getElem?_eq_none (by rw [Array.length_toList, B8_size]; simp; omega)]
 ·
  cases h
theorem lits_inv {d : Nat} {cs : Array Value} {l : List Lit} (h : Tryz.prog.keyLits (d + 3) 86 cs.toList = some l) : ∃ n : Nm, n.1.length = 32 ∧ n.2.length ≤ maxLen ∧ cs = nmC n := by
 unfold Program.keyLits at h
 simp only [Tryz.underlying86, cells68] at h
 split at h
 ·
  rename_i hl
  rw [Option.map_eq_some_iff] at h
  obtain ⟨ls, hm, _⟩ := h
  obtain ⟨y0, h0⟩ := mapM_inv hm _ (by simp; exact .inl rfl)
  obtain ⟨y1, h1⟩ := mapM_inv hm _ (by simp; exact .inr rfl)
  simp only [cells26, cells9, List.drop_zero] at h0 h1
  obtain ⟨p, hp, e0⟩ := litsH_inv h0
  obtain ⟨t, ht, e1⟩ := litT_inv h1
  refine ⟨(p, t), hp, ht, ?_⟩
  apply Array.ext'
  have hd : cs.toList.drop 32 = [Value.string (txt t)] := by
   rw [← e1, List.take_of_length_le (by rw [List.length_drop]; omega)]
  rw [← List.take_append_drop 32 cs.toList, e0, hd]
  simp [nmC]
 ·
  cases h
theorem key_inv {v : Value} {kl : Lit} (h : keyOf Tryz.prog 86 v = some kl) : ∃ n : Nm, n.1.length = 32 ∧ n.2.length ≤ maxLen ∧ v = .agg (nmC n) ∧ kl = kN n := by
  obtain ⟨d, hd⟩ : ∃ d, Tryz.prog.types.size + 1 = d + 3 := ⟨Tryz.prog.types.size - 2, by have : 2 ≤ Tryz.prog.types.size := of_decide_eq_true (by kernel_rfl); omega⟩
  have h' := h
  unfold keyOf at h
  rw [Tryz.underlying86] at h
  simp only at h
  split at h
  · rename_i hf
    rw [Option.map_eq_some_iff] at h
    obtain ⟨ls, hl, _⟩ := h
    rw [hd] at hl
    have hform := (Bool.and_eq_true_iff.1 hf).2
    cases v with
    | agg cs =>
      obtain ⟨n, hn, ht, rfl⟩ := lits_inv hl
      refine ⟨n, hn, ht, rfl, ?_⟩
      rw [key_nm n hn ht] at h'
      exact (Option.some.inj h').symm
    | _ => simp [Value.formed, Tryz.underlying86] at hform
  · cases h
abbrev OkNm := {n : Nm // n.1.length = 32 ∧ n.2.length ≤ maxLen}
def mkK (n : OkNm) : Value := .agg (nmC n.1)
theorem invK (key : Value) (kl : Lit) (h : keyOf Tryz.prog 86 key = some kl) : ∃ n : OkNm, key = mkK n := by
 obtain ⟨n, hn, ht, e, _⟩ := key_inv h
 exact ⟨⟨n, hn, ht⟩, e⟩
theorem invV (v : Value) (y : DataW Unit × List MemPlace) (h : rdW v = some y) : ∃ c, v = wv c := by
 unfold rdW at h
 split at h
 ·
  rename_i hh
  exact hh
 ·
  cases h
theorem next_is {D : DataW Unit} {f : Nm → BitVec 128} (hf : HoldsF D f) {n : OkNm} {c : BitVec 128} {kl : Lit} {y : DataW Unit × List MemPlace} (hk : keyOf Tryz.prog 86 (mkK n) = some kl) (hy : rdW (wv c) = some y) (hat : ∀ zd, D.atKey kl zd = y.1) : kl = kN n.1 ∧ c = f n.1 := by
 have h1 := key_nm n.1 n.2.1 n.2.2
 unfold mkK at hk
 rw [h1] at hk
 obtain rfl := Option.some.inj hk
 have h2 := hat (dW 0)
 rw [hf n.1 n.2.1 n.2.2] at h2
 rw [rdW_wv] at hy
 obtain rfl := Option.some.inj hy
 exact ⟨rfl, (dW_inj h2).symm⟩
end Go.Proofs.YtjngghihciimjaaGreat
namespace Go.Proofs.YtjngghihciimjaaGreat
set_option maxRecDepth 100000
open Go.RowKit Go.Sort Go.Maps
section
variable {α : Type} (enc : α → Array Value) (k : Nat)
def cellsF (l : List α) : List Value := l.flatMap fun a => (enc a).toList
theorem cellsF_cons (a : α) (l : List α) : cellsF enc (a :: l) = (enc a).toList ++ cellsF enc l := rfl
theorem cellsF_app (l m : List α) : cellsF enc (l ++ m) = cellsF enc l ++ cellsF enc m := by simp [cellsF]
theorem cellsF_len : ∀ (l : List α), (∀ a, a ∈ l → (enc a).size = k) → (cellsF enc l).length = l.length * k
  | [], _ => by simp [cellsF]
  | a :: l, h => by
    rw [cellsF_cons, List.length_append, Array.length_toList, h a (by simp), cellsF_len l fun b hb => h b (by simp [hb]), List.length_cons, Nat.succ_mul, Nat.add_comm]
theorem cellsF_get : ∀ (l : List α), (∀ a, a ∈ l → (enc a).size = k) → ∀ (i : Nat) (a : α), l[i]? = some a → ∀ j, j < k → (cellsF enc l)[i * k + j]? = (enc a)[j]?
  | [], _, i, a, h, _, _ => by simp at h
  | b :: l, hs, 0, a, h, j, hj => by
    simp only [List.getElem?_cons_zero, Option.some.injEq] at h
    subst h
    have hl : (enc b).toList.length = k := by rw [Array.length_toList]; exact hs b (by simp)
    rw [cellsF_cons, Nat.zero_mul, Nat.zero_add, List.getElem?_append_left (by rw [hl]; exact hj), Array.getElem?_toList]
  | b :: l, hs, i + 1, a, h, j, hj => by
    simp only [List.getElem?_cons_succ] at h
    have hl : (enc b).toList.length = k := by rw [Array.length_toList]; exact hs b (by simp)
    rw [cellsF_cons, List.getElem?_append_right (by rw [hl, Nat.succ_mul]; omega), hl, show (i + 1) * k + j - k = i * k + j by rw [Nat.succ_mul]; omega]
    exact cellsF_get l (fun c hc => hs c (by simp [hc])) i a h j hj
theorem cellsF_one (l : List α) (h : ∀ a, a ∈ l → (enc a).all (·.oneCell') = true) : ∀ u ∈ cellsF enc l, u.oneCell' = true := by
 intro u hu
 obtain ⟨a, ha, h2⟩ := List.mem_flatMap.1 hu
 have := h a ha
 rw [Array.all_eq_true_iff_forall_mem] at this
 exact this u (Array.mem_toList_iff.1 h2)
theorem own_at {w : World} {B : Nat} {e : TypeId} {v : Value} {l : List α} (hs : ∀ a, a ∈ l → (enc a).size = k) (h : w.ownsRow B e k v l.length (cellsF enc l)) :
  (v = .slice none 0 0 ∧ l = []) ∨ ∃ g cap, v = .slice (some ⟨g, 0, none⟩) l.length cap ∧ B ≤ g ∧ g < w.heap.size ∧ l.length ≤ cap ∧ (∀ (i : Nat) (a : α), l[i]? = some a → w.rangeAt g (0 + i * k) (enc a).toList) ∧ ∀ j, w.frozen? ⟨g, j, none⟩ = false := by
 rcases h.2 with ⟨h1, h2⟩ | ⟨g, cap, cur, h1, h2, h3, h4, h5, h6, h7⟩
 ·
  exact .inl ⟨h1, List.eq_nil_of_length_eq_zero h2⟩
 ·
  have hl : Lies w g cur e := h3
  refine .inr ⟨g, cap, h1, h2, hl.lt, h4, fun i a ha j v hv => ?_, fun j => hl.free j⟩
  have hj : j < k := by
   have := (List.getElem?_eq_some_iff.1 hv).1
   rw [Array.length_toList, hs a (List.mem_of_getElem? ha)] at this
   exact this
  have hi : i < l.length := (List.getElem?_eq_some_iff.1 ha).1
  rw [Array.getElem?_toList] at hv
  have h8 : (cellsF enc l)[i * k + j]? = some v := by rw [cellsF_get enc k l hs i a ha j hj]; exact hv
  have hm : i * k + j < l.length * k := by
   have : (i + 1) * k ≤ l.length * k := Nat.mul_le_mul_right k hi
   rw [Nat.succ_mul] at this
   omega
  rw [← h7, List.getElem?_take, if_pos hm] at h8
  rw [show 0 + i * k + j = i * k + j by omega]
  exact hl.cell (i * k + j) (by simpa using h8)
theorem src_one {w : World} {g : Nat} {t : TypeId} {a : α} (h : Lies w g (enc a) t) : ∀ j u, (cellsF enc [a])[j]? = some u → w.cell? ((⟨g, 0, none⟩ : Addr).add j) = some u := fun j u hu => by
 have : (enc a)[j]? = some u := by
  rw [cellsF_cons] at hu
  simpa [cellsF] using hu
 have h2 := h.cell j this
 have e : (⟨g, 0, none⟩ : Addr).add j = ⟨g, j, none⟩ := by cases j <;> simp [Addr.add]
 rw [e]; exact h2
end
theorem info48 : (Tryz.prog.info? 75).map (fun i => (i.zero.map (·.cells.size), i.size, i.bytes)) = some (some 35, 35, 64) := by kernel_rfl
theorem info54 : (Tryz.prog.info? 38).map (fun i => (i.zero.map (·.cells.size), i.size, i.bytes)) = some (some 34, 34, 56) := by kernel_rfl
theorem info_parts {P : Program} {t : TypeId} {k b : Nat} (h : (P.info? t).map (fun i => (i.zero.map (·.cells.size), i.size, i.bytes)) = some (some k, k, b)) : ∃ i z, P.info? t = some i ∧ i.zero = some z ∧ i.size = k ∧ i.bytes = b ∧ z.cells.size = k := by
  cases hi : P.info? t with
  | none => rw [hi] at h; simp at h
  | some i =>
    rw [hi] at h
    simp only [Option.map_some, Option.some.injEq, Prod.mk.injEq] at h
    obtain ⟨h1, h2, h3⟩ := h
    cases hz : i.zero with
    | none => rw [hz] at h1; simp at h1
    | some z =>
      rw [hz] at h1
      exact ⟨i, z, rfl, hz, h2, h3, by simpa using h1⟩
theorem RowT.but {w w' : World} {pa : Option Addr} {l : List To} (h : RowT w pa l) {r : Option Nat} (hg : w.grownBy w' r) (hne : ∀ g off, pa = some ⟨g, off, none⟩ → 0 < l.length → some g ≠ r) : RowT w' pa l :=
 ⟨h.1, h.2.1, fun hl => by
  obtain ⟨g, off, e, hlt, hh⟩ := h.2.2 hl
  exact ⟨g, off, e, Nat.lt_of_lt_of_le hlt hg.size, fun i a hi j v hv => hg.cell (hh i a hi j v hv) (hne g off e hl)⟩⟩
theorem grown_setRow (w : World) (g : Nat) (cs : Array Value) : w.grownBy (w.setRow g cs) (some g) := ⟨rfl, rfl, rfl, by simp, fun k _ hk => setRow_other w g k cs (fun e => hk (by rw [e]))⟩
theorem RowT.setRow {w : World} {pa : Option Addr} {l : List To} (h : RowT w pa l) (b : Nat) (cs' : Array Value) {cs : Array Value} {t : TypeId} (hl : Lies w b cs t) (hlt : cs.size ≤ 34) : RowT (w.setRow b cs') pa l :=
 h.but (grown_setRow w b cs') (fun g off e h0 heq => by
  have hgb : g = b := Option.some.inj heq
  obtain ⟨g', off', e', _, hh⟩ := h.2.2 h0
  rw [e] at e'
  cases e'
  subst hgb
  obtain ⟨a, ha⟩ : ∃ a, l[0]? = some a := ⟨l[0], List.getElem?_eq_getElem h0⟩
  have hc := hh 0 a ha 34 _ (by rw [Array.getElem?_toList]; exact toC_lo a (h.2.1 a (List.mem_of_getElem? ha)).1)
  rw [cell_of_row w g _ cs t (0, 0) hl, Array.getElem?_eq_none (by omega)] at hc
  cases hc)
theorem setRow_alloc2 (w : World) (A : Array Value) (t : TypeId) (o : Obj) (nv : Array Value) : ((w.alloc (.cells A t)).alloc o).setRow w.heap.size nv = (w.alloc (.cells nv t)).alloc o := by
 have e : (((w.alloc (.cells A t)).alloc o).setRow w.heap.size nv).heap = ((w.alloc (.cells nv t)).alloc o).heap := by
  apply Array.ext_getElem?
  intro i
  by_cases hi : i = w.heap.size
  ·
   subst hi
   have h1 : Lies (w.alloc (.cells A t)) w.heap.size A t := Lies.new _ _ _
   have h2 : Lies (w.alloc (.cells nv t)) w.heap.size nv t := Lies.new _ _ _
   exact ((h1.alloc o).setRow nv).trans (h2.alloc o).symm
  ·
   rw [setRow_other _ _ _ _ hi]
   show ((w.heap.push _).push o)[i]? = ((w.heap.push _).push o)[i]?
   simp [Array.getElem?_push, hi]
 show ({ ((w.alloc (.cells A t)).alloc o) with heap := (((w.alloc (.cells A t)).alloc o).setRow w.heap.size nv).heap } : World) = _
 rw [e]
 rfl
theorem run_slice1 {P : Program} (w : World) (t e : TypeId) (k b : Nat) (cs : Array Value) (hu : P.underlying t = some (.slice e)) (hi : (P.info? e).map (fun i => (i.zero.map (·.cells.size), i.size, i.bytes)) = some (some k, k, b)) (hk : 0 < k) (hk2 : k ≤ 1000) (hc : cs.size = k) :
  (Instr.buildSlice t 1 #[(0, .agg cs)]).run P w = .ok (.slice (some ⟨w.heap.size, 0, none⟩) 1 1) (w.alloc (.cells cs e)) := by
 obtain ⟨i, z, h1, h2, h3, h4, h5⟩ := info_parts hi
 refine run_buildSlice w t e 1 _ cs i z hu h1 h2 (by rw [h3]; omega) (by rw [h3]; omega) ?_
 rw [h3]
 have h := Great.fill_whole hk [Value.agg cs] ((Array.range (1 * k)).map (z.cells[· % z.cells.size]!)) (by simpa [Value.cells] using hc) (by simp)
 simpa [Value.cells] using h
theorem built_total (a : To) (h : a.nm.1.length = 32) : Tryz.prog.built 75 [(0, .agg (B8 a.nm.1)), (1, .string (txt a.nm.2)), (2, .agg #[.int .i64 (hiS a.w), .int .u64 (loN a.w)])] = some (toC a) := by
 obtain ⟨⟨p, t⟩, x⟩ := a
 obtain ⟨a0, a1, a2, a3, a4, a5, a6, a7, a8, a9, a10, a11, a12, a13, a14, a15, a16, a17, a18, a19, a20, a21, a22, a23, a24, a25, a26, a27, a28, a29, a30, a31, rfl⟩ := list32 p h
 kernel_rfl
theorem built_asset (a : As) (h : a.nm.1.length = 32) : Tryz.prog.built 38 [(0, .agg (B8 a.nm.1)), (1, .string (txt a.nm.2)), (2, .int .i64 a.amt)] = some (asC a) := by
 obtain ⟨⟨p, t⟩, x⟩ := a
 obtain ⟨a0, a1, a2, a3, a4, a5, a6, a7, a8, a9, a10, a11, a12, a13, a14, a15, a16, a17, a18, a19, a20, a21, a22, a23, a24, a25, a26, a27, a28, a29, a30, a31, rfl⟩ := list32 p h
 kernel_rfl
theorem wpOp_append {P : Program} {ops : Array Oper} {Q : Exit → Act → World → Prop} {j : Nat} {o : Oper} {a : Act} {w : World} {K : Act → World → Prop} (hj : ops[j]? = some o) (hgd : o.guard = none) (d : Tmp) (hd : o.dst = some d) (s x : Operand) (t : TypeId)
  (ho : o.op = .call { callee := .builtin .append, args := #[s, x], argTypes := #[t, t] })
  (base : Nat) (e : TypeId) (size bytes : Nat) (ht : P.underlying t = some (.slice e)) (hi : (P.info? e).map (fun i => (i.zero.map (·.cells.size), i.size, i.bytes)) = some (some size, size, bytes)) (hsz : 0 < size)
  (v : Value) (n : Nat) (xs : List Value) (hs : a.eval s = v) (hown : w.ownsRow base e size v n xs)
  (ad : Addr) (m c : Nat) (news : List Value) (hx : a.eval x = .slice (some ad) m c) (hl : news.length = m * size) (hnews : ∀ j u, news[j]? = some u → w.cell? (ad.add j) = some u) (h1 : ∀ u ∈ news, u.oneCell' = true)
  (hm : 0 < m) (h63 : n + m ≤ maxLen) (hbytes : (n + m) * bytes ≤ 140737488355328) (hbase : base ≤ w.heap.size)
  (h : ∀ g cap w', w'.ownsRow base e size (.slice (some ⟨g, 0, none⟩) (n + m) cap) (n + m) (xs ++ news) → w.grownBy w' v.ownBlock → (v.ownBlock = some g ∨ g = w.heap.size) → g < w'.heap.size → K (a.put (some d) (.slice (some ⟨g, 0, none⟩) (n + m) cap)) w') : wpOp P ops Q j K a w := by
 obtain ⟨i0, z0, hi0, hz0, hz1, hz2, hz3⟩ := info_parts hi
 exact wpOp_wp hj hgd (wp_append_lies w s x t ho base e i0 z0 size bytes ht hi0 hz0 hz1 hz2 hz3 hsz v n xs hs hown ad m c news hx hl hnews h1 hm h63 hbytes hbase _ rfl (by rw [hd]; exact h))
def OwnTo (w : World) (B : Nat) (v : Value) (l : List To) : Prop := w.ownsRow B 75 35 v l.length (cellsF toC l)
def OwnAs (w : World) (B : Nat) (v : Value) (l : List As) : Prop := w.ownsRow B 38 34 v l.length (cellsF asC l)
theorem OwnTo.row {w : World} {B : Nat} {v : Value} {l : List To} (h : OwnTo w B v l) (ho : ∀ a, a ∈ l → ToOk a) (hl : l.length ≤ maxLen) : ∃ pa c, v = .slice pa l.length c ∧ RowT w pa l := by
 rcases own_at toC 35 (fun a ha => toC_size a (ho a ha).1) h with ⟨h1, rfl⟩ | ⟨g, cap, h1, h2, h3, h4, h5, _⟩
 ·
  exact ⟨none, 0, h1, hl, ho, fun h => absurd h (by simp)⟩
 ·
  exact ⟨_, cap, h1, hl, ho, fun _ => ⟨g, 0, rfl, h3, h5⟩⟩
theorem OwnAs.row {w : World} {B : Nat} {v : Value} {l : List As} (h : OwnAs w B v l) (ho : ∀ a, a ∈ l → AsOk a) (hl : l.length ≤ maxLen) : ∃ pa c, v = .slice pa l.length c ∧ Row w pa l := by
 rcases own_at asC 34 (fun a ha => asC_size a (ho a ha).1) h with ⟨h1, rfl⟩ | ⟨g, cap, h1, h2, h3, h4, h5, _⟩
 ·
  exact ⟨none, 0, h1, hl, ho, fun h => absurd h (by simp)⟩
 ·
  exact ⟨_, cap, h1, hl, ho, fun _ => ⟨g, 0, rfl, h3, h5⟩⟩
theorem ownsRow_below {w w' : World} {B : Nat} {e : TypeId} {k n : Nat} {v : Value} {xs : List Value} (h : w.ownsRow B e k v n xs) (hb : Below w.heap.size w w') : w'.ownsRow B e k v n xs :=
 h.kept (grown_of (r := none) hb) (by
  cases hv : v.ownBlock
  ·
   exact .inl rfl
  ·
   exact .inr (by simp))
theorem ownsRow_far {w : World} {B : Nat} {e : TypeId} {k n : Nat} {v : Value} {xs : List Value} (h : w.ownsRow B e k v n xs) {g : Nat} {cs : Array Value} {t : TypeId} (hg : Lies w g cs t) (hne : t ≠ e) : some g ≠ v.ownBlock := by
 rcases h.2 with ⟨h1, _⟩ | ⟨g', cap, cur, h1, h2, h3, _⟩
 ·
  rw [h1]; exact fun e => by cases e
 ·
  rw [h1]
  intro e'
  have e2 : g = g' := Option.some.inj e'
  subst e2
  unfold Lies at hg
  rw [h3] at hg
  simp only [Option.some.injEq, Obj.cells.injEq] at hg
  exact hne hg.2.1.symm
theorem ownsRow_new {w : World} {B : Nat} {e : TypeId} {k n : Nat} {v : Value} {xs : List Value} (h : w.ownsRow B e k v n xs) : v.ownBlock ≠ some w.heap.size := by
 rcases h.2 with ⟨h1, _⟩ | ⟨g', cap, cur, h1, h2, h3, _⟩
 ·
  rw [h1]; exact fun e => by cases e
 ·
  rw [h1]
  intro e'
  have e2 : g' = w.heap.size := Option.some.inj e'
  have := (Array.getElem?_eq_some_iff.1 h3).1
  omega
theorem lies_grown {w w' : World} {r : Option Nat} {g : Nat} {cs : Array Value} {t : TypeId} (hg : w.grownBy w' r) (h : Lies w g cs t) (hn : some g ≠ r) : Lies w' g cs t := (hg.block g h.lt hn).trans h
end Go.Proofs.YtjngghihciimjaaGreat
