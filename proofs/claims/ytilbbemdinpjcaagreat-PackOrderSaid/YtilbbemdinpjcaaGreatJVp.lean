/-
  The sum of numbers of 128 bits.
-/
import Derived.Test.YtilbbemdinpjcaaGreatJVe
import Derived.Test.YtilbbemdinpjcaaGreatJVr
import Derived.Laws.Externs
namespace Go.Proofs.YtilbbemdinpjcaaGreat
set_option maxRecDepth 100000
open Go.RowKit Go.Sort

theorem Row.at {w : World} {g off : Nat} {l : List As} {i : Nat} {a : As} (h : HasA w g off l) (ha : l[i]? = some a) : w.rangeAt g (off + i * 34) (asC a).toList := h i a ha
set_option maxHeartbeats 4000000 in
theorem same_any (w : World) (pa pb : Option Addr) (l m : List As) (c e : Nat) (hl : Row w pa l) (hm : Row w pb m) :
    Calls Tryz.prog 79 #[.slice pa l.length c, .slice pb m.length e] w fun e w' => e = .returned (.bool (decide (l = m))) ∧ Below w.heap.size w w' := by
  have hli : (l.length : Int) ≤ 9223372036854775807 := by have := hl.1; unfold maxLen at this; omega
  have hmi : (m.length : Int) ≤ 9223372036854775807 := by have := hm.1; unfold maxLen at this; omega
  have HS := Lib.hid (And.intro hl hm)
  clear hl hm
  by_cases hlen : l.length = m.length
  · rw [hlen]
    have HL := Lib.hid hlen
    clear hlen
    go_enter Tryz.func79, Tryz.ntmps79
    go_wp2_with fail
    go_loopw [5] (fun i W => ∃ k : Nat, k ≤ m.length ∧ i = .int .i64 k ∧ Below w.heap.size w W ∧ ∀ i, i < k → l[i]? = m[i]?) (fun i _ => m.length - (intOf i).toNat)
    case atStart => exact ⟨0, Nat.zero_le _, rfl, Below.refl _ _, fun i hi => absurd hi (by omega)⟩
    case round =>
      obtain ⟨k, hk, rfl, hb, hall⟩ := hrel
      have hlen := HL.out
      by_cases hlt : k < m.length
      · have m1 : (k : Int) < (m.length : Int) := by omega
        have m0 : (0 : Int) ≤ (k : Int) := by omega
        obtain ⟨g, off, rfl, hg, hh⟩ := HS.out.1.2.2 (by omega)
        obtain ⟨g', off', rfl, hg', hh'⟩ := HS.out.2.2.2 (by omega)
        obtain ⟨a, ha⟩ : ∃ a, a = l[k] := ⟨_, rfl⟩
        obtain ⟨b, hb'⟩ : ∃ b, b = m[k] := ⟨_, rfl⟩
        have hka : l[k]? = some a := by rw [ha, List.getElem?_eq_getElem (by omega)]
        have hkb : m[k]? = some b := by rw [hb', List.getElem?_eq_getElem hlt]
        have oka := HS.out.1.2.1 a (List.mem_of_getElem? hka)
        have okb := HS.out.2.2.1 b (List.mem_of_getElem? hkb)
        obtain ⟨va, hva⟩ : ∃ v, v = asC a := ⟨_, rfl⟩
        obtain ⟨vb, hvb⟩ : ∃ v, v = asC b := ⟨_, rfl⟩
        have hvs : va.size = 34 := by rw [hva]; exact asC_size a oka.1
        have hvt : vb.size = 34 := by rw [hvb]; exact asC_size b okb.1
        have heq : ∀ W, (Op.equalIn 10000 146 (.agg va) (.agg vb)).run Tryz.prog W = .ok (decide (a = b)) W := fun W => by rw [hva, hvb]; exact eq_as W a b oka okb
        have HR1 : Hid (∀ W, Below w.heap.size w W → W.rangeAt g (off + k * 34) va.toList ∧ W.rangeAt g' (off' + k * 34) vb.toList) := Lib.hid fun W hW => by
          rw [hva, hvb]
          exact ⟨(hh.below hW hg) k a hka, (hh'.below hW hg') k b hkb⟩
        have HR := Lib.hid (And.intro hb (And.intro hall (And.intro hlt (And.intro hka (And.intro hkb (And.intro hvs hvt))))))
        have HI := Lib.hid (And.intro (show (Tryz.prog.info? 146).map (·.size) = some va.size by rw [hvs]; exact info_asset) (show (Tryz.prog.info? 146).map (·.size) = some vb.size by rw [hvt]; exact info_asset))
        clear hlen hb hall hlt hk ha hb' hka hkb oka okb hva hvb hvs hvt hh hh' hg hg'
        go_upto_region 6 with fail
        refine wp_region_noPanic (wp_region_held (S := fun V => V.rangeAt g (off + k * 34) va.toList ∧ V.rangeAt g' (off' + k * 34) vb.toList) (by kernel_rfl) ?_)
        change wpAnyH _ _ _ _ _ 9 _ _ (World.drew wr)
        have hcur := HR1.out _ HR.out.1.drew
        have hbd : Below w.heap.size w wr.drew := HR.out.1.drew
        have HBD := Lib.hid hbd
        clear hbd
        by_cases hab : a = b
        · have hd : decide (a = b) = true := by simp [hab]
          have HAB := Lib.hid hab
          clear hab
          refine tk 0 (.slice (some ⟨g, off, none⟩) m.length c) 17 rfl rfl hcur ?_
          refine tk 1 (.int .i64 k) 18 rfl rfl hcur ?_
          refine tk 2 (.pointer (some ⟨g, off + k * 34, none⟩)) 19 rfl rfl hcur ?_ (by intro w' hS'; unfold execOp; simp [go_sem, m0, m1])
          refine tk 3 (.agg va) 20 rfl rfl hcur ?_ (by intro w' hS'; exact exec_loadM 146 _ rfl _ _ rfl va hS'.1 Tryz.underlying146 rfl HI.out.1)
          refine tk 4 (.slice (some ⟨g', off', none⟩) m.length e) 21 rfl rfl hcur ?_
          refine tk 5 (.int .i64 k) 22 rfl rfl hcur ?_
          refine tk 6 (.pointer (some ⟨g', off' + k * 34, none⟩)) 23 rfl rfl hcur ?_ (by intro w' hS'; unfold execOp; simp [go_sem, m0, m1])
          refine tk 7 (.agg vb) 24 rfl rfl hcur ?_ (by intro w' hS'; exact exec_loadM 146 _ rfl _ _ rfl vb hS'.2 Tryz.underlying146 rfl HI.out.2)
          refine tk 8 (.bool false) 25 rfl rfl hcur ?_ (by intro w' hS'; unfold execOp; simp [go_sem, heq, hd])
          refine wpAnyH_done (by kernel_rfl) ?_ _
          unfold NoPanic
          dsimp only
          clear hcur heq hd
          go_wp2_with fail
          have e1 : (k : Int) + 1 = ((k + 1 : Nat) : Int) := by omega
          rw [e1]
          refine ⟨⟨k + 1, HR.out.2.2.1, rfl, HBD.out, fun i hi => ?_⟩, ?_⟩
          · by_cases e : i = k
            · rw [e, HR.out.2.2.2.1, HR.out.2.2.2.2.1, HAB.out]
            · exact HR.out.2.1 i (by omega)
          · have h := HR.out.2.2.1
            show m.length - (k + 1) < m.length - k
            omega
        · have hd : decide (a = b) = false := by simp [hab]
          have HAB := Lib.hid (show l ≠ m from fun e => hab (by
            have h1 := HR.out.2.2.2.1
            rw [e, HR.out.2.2.2.2.1] at h1
            exact (Option.some.inj h1).symm))
          clear hab
          refine tk 0 (.slice (some ⟨g, off, none⟩) m.length c) 17 rfl rfl hcur ?_
          refine tk 1 (.int .i64 k) 18 rfl rfl hcur ?_
          refine tk 2 (.pointer (some ⟨g, off + k * 34, none⟩)) 19 rfl rfl hcur ?_ (by intro w' hS'; unfold execOp; simp [go_sem, m0, m1])
          refine tk 3 (.agg va) 20 rfl rfl hcur ?_ (by intro w' hS'; exact exec_loadM 146 _ rfl _ _ rfl va hS'.1 Tryz.underlying146 rfl HI.out.1)
          refine tk 4 (.slice (some ⟨g', off', none⟩) m.length e) 21 rfl rfl hcur ?_
          refine tk 5 (.int .i64 k) 22 rfl rfl hcur ?_
          refine tk 6 (.pointer (some ⟨g', off' + k * 34, none⟩)) 23 rfl rfl hcur ?_ (by intro w' hS'; unfold execOp; simp [go_sem, m0, m1])
          refine tk 7 (.agg vb) 24 rfl rfl hcur ?_ (by intro w' hS'; exact exec_loadM 146 _ rfl _ _ rfl vb hS'.2 Tryz.underlying146 rfl HI.out.2)
          refine tk 8 (.bool true) 25 rfl rfl hcur ?_ (by intro w' hS'; unfold execOp; simp [go_sem, heq, hd])
          refine wpAnyH_done (by kernel_rfl) ?_ _
          unfold NoPanic
          dsimp only
          clear hcur heq hd
          go_wp2_with fail
          go_ret
          refine ⟨?_, HBD.out⟩
          rw [decide_eq_false HAB.out]
          rfl
      · have e1 : k = m.length := by omega
        have HF := Lib.hid (And.intro hb (show l = m from List.ext_getElem? fun i => by
          by_cases hi : i < k
          · exact hall i hi
          · rw [List.getElem?_eq_none (by omega), List.getElem?_eq_none (by omega)]))
        have m1 : ¬ (k : Int) < (m.length : Int) := by omega
        clear hb hall e1 hk hlt hlen
        go_wp2_with fail
        go_ret
        refine ⟨?_, HF.out.1⟩
        rw [decide_eq_true HF.out.2]
        rfl
  · have hne : ¬ (l.length : Int) = (m.length : Int) := by omega
    have HN := Lib.hid (show l ≠ m from fun e => hlen (by rw [e]))
    clear hlen
    go_enter Tryz.func79, Tryz.ntmps79
    go_wp2_with fail
    go_ret
    refine ⟨?_, Below.refl _ _⟩
    rw [decide_eq_false HN.out]
    rfl
def sameB (x y : Int) (l m : List As) : Bool := decide (x = y) && decide (l = m)
set_option maxHeartbeats 1000000 in
theorem sameV_any (w : World) (x y : Int) (pa pb : Option Addr) (l m : List As) (c e : Nat) (hl : Row w pa l) (hm : Row w pb m) :
    Calls Tryz.prog 80 #[.agg (vC x pa l.length c), .agg (vC y pb m.length e)] w fun e w' => e = .returned (.bool (sameB x y l m)) ∧ Below w.heap.size w w' := by
  have hli : (l.length : Int) ≤ 9223372036854775807 := by have := hl.1; unfold maxLen at this; omega
  have hmi : (m.length : Int) ≤ 9223372036854775807 := by have := hm.1; unfold maxLen at this; omega
  have hb1 : Below w.heap.size w ((w.alloc (.cells (vC x pa l.length c) 27)).alloc (.cells (vC y pb m.length e) 27)) := ((Below.refl _ _).alloc (Nat.le_refl _) _).alloc (by simp) _
  have hL1 : Lies ((w.alloc (.cells (vC x pa l.length c) 27)).alloc (.cells (vC y pb m.length e) 27)) w.heap.size (vC x pa l.length c) 27 := (Lies.new _ _ _).alloc _
  have hL2 : Lies ((w.alloc (.cells (vC x pa l.length c) 27)).alloc (.cells (vC y pb m.length e) 27)) (w.heap.size + 1) (vC y pb m.length e) 27 := by
    have := Lies.new (w.alloc (.cells (vC x pa l.length c) 27)) (vC y pb m.length e) 27
    simpa using this
  have hC := same_any _ pa pb l m c e (hl.below hb1 (Nat.le_refl _)) (hm.below hb1 (Nat.le_refl _))
  have H := Lib.hid (And.intro hC hb1)
  have c0 := hL1.cell 0 (v := .int .i64 x) rfl
  have c1 := hL1.cell 1 (v := .slice pa l.length c) rfl
  have d0 := hL2.cell 0 (v := .int .i64 y) rfl
  have d1 := hL2.cell 1 (v := .slice pb m.length e) rfl
  clear hl hm hC hb1 hL1 hL2
  unfold vC
  unfold vC at H c0 c1 d0 d1
  go_enter Tryz.func80, Tryz.ntmps80
  by_cases hxy : x = y
  · have HV := Lib.hid (show sameB x y l m = decide (l = m) by unfold sameB; simp [hxy])
    subst hxy
    go_wp2_with fail
    refine H.out.1.mono ?_
    rintro e w2 ⟨rfl, hb2⟩
    go_wp2_with fail
    go_ret
    refine ⟨?_, H.out.2.trans (hb2.mono H.out.2.size)⟩
    rw [HV.out]
    rfl
  · have HV := Lib.hid (show sameB x y l m = false by unfold sameB; simp [hxy])
    go_wp2_with fail
    go_ret
    refine ⟨?_, H.out.2⟩
    rw [HV.out]
    rfl
end Go.Proofs.YtilbbemdinpjcaaGreat
namespace Go.Proofs.YtilbbemdinpjcaaGreat
set_option maxRecDepth 100000
open Go.RowKit Go.Sort

set_option maxHeartbeats 4000000 in
theorem assetsOf_any (w : World) (pa : Option Addr) (l : List As) (c : Nat) (lim : Int) (h : Row w pa l) :
    Calls Tryz.prog 42 #[.slice pa l.length c, .int .i64 lim] w fun e w' => (∃ n, e = .returned (.int .i64 n)) ∧ Below w.heap.size w w' := by
  have hli : (l.length : Int) ≤ 9223372036854775807 := by have := h.1; unfold maxLen at this; omega
  have H := Lib.hid h
  clear h
  go_enter Tryz.func42, Tryz.ntmps42
  go_wp2_with fail
  go_loopw [5, 6] (fun s i W => ∃ (k : Nat) (n : Int), k ≤ l.length ∧ s = .int .i64 n ∧ i = .int .i64 k ∧ Below w.heap.size w W) (fun _ i _ => l.length - (intOf i).toNat)
  case atStart => exact ⟨0, 0, Nat.zero_le _, rfl, rfl, Below.refl _ _⟩
  case round =>
    obtain ⟨k, n, hk, rfl, rfl, hb⟩ := hrel
    by_cases hlt : k < l.length
    · have m1 : (k : Int) < (l.length : Int) := by omega
      have m0 : (0 : Int) ≤ (k : Int) := by omega
      by_cases hn : n ≤ lim
      · obtain ⟨g, off, rfl, hg, hh⟩ := H.out.2.2 (by omega)
        obtain ⟨a, ha⟩ : ∃ a, a = l[k] := ⟨_, rfl⟩
        have hka : l[k]? = some a := by rw [ha, List.getElem?_eq_getElem hlt]
        have oka := H.out.2.1 a (List.mem_of_getElem? hka)
        have c32 := (hh.below hb hg) k a hka 32 (.string (txt a.nm.2)) (by rw [Array.getElem?_toList]; exact asC_txt a oka.1)
        have hts := txt_size a.nm.2
        have ht := oka.2.1
        have HR := Lib.hid (And.intro hb hlt)
        generalize txt a.nm.2 = tv at c32 hts
        have hti : (tv.size : Int) ≤ 9223372036854775807 := by unfold maxLen at ht; omega
        clear ha hka oka hg hh hb hlt hk hts ht
        go_wp2_with fail
        have e1 : (k : Int) + 1 = ((k + 1 : Nat) : Int) := by omega
        rw [e1]
        refine ⟨⟨k + 1, _, HR.out.2, rfl, rfl, HR.out.1⟩, ?_⟩
        have h := HR.out.2
        show l.length - (k + 1) < l.length - k
        omega
      · have HB := Lib.hid hb
        clear hb hlt hk
        go_wp2_with fail
        go_ret
        exact ⟨⟨n, rfl⟩, HB.out⟩
    · have m1 : ¬ (k : Int) < (l.length : Int) := by omega
      have HB := Lib.hid hb
      clear hb hlt hk
      go_wp2_with fail
      go_ret
      exact ⟨⟨n, rfl⟩, HB.out⟩
set_option maxHeartbeats 1000000 in
theorem valueOf_any (w : World) (x : Int) (pa : Option Addr) (l : List As) (c : Nat) (lim : Int) (h : Row w pa l) :
    Calls Tryz.prog 43 #[.agg (vC x pa l.length c), .int .i64 lim] w fun e w' => (∃ n, e = .returned (.int .i64 n)) ∧ Below w.heap.size w w' := by
  have hli : (l.length : Int) ≤ 9223372036854775807 := by have := h.1; unfold maxLen at this; omega
  have hb1 : Below w.heap.size w (w.alloc (.cells (vC x pa l.length c) 27)) := (Below.refl _ _).alloc (Nat.le_refl _) _
  have hL : Lies (w.alloc (.cells (vC x pa l.length c) 27)) w.heap.size (vC x pa l.length c) 27 := Lies.new _ _ _
  have hC := assetsOf_any _ pa l c lim (h.below hb1 (Nat.le_refl _))
  have H := Lib.hid (And.intro hC hb1)
  have c0 := hL.cell 0 (v := .int .i64 x) rfl
  have c1 := hL.cell 1 (v := .slice pa l.length c) rfl
  clear h hC hb1 hL
  unfold vC
  unfold vC at H c0 c1
  go_enter Tryz.func43, Tryz.ntmps43
  go_wp2_with fail
  refine H.out.1.mono ?_
  rintro e w2 ⟨⟨n, rfl⟩, hb2⟩
  have HB := Lib.hid (H.out.2.trans (hb2.mono H.out.2.size))
  clear hb2 c0 c1
  go_wp2_with fail
  go_ret
  exact ⟨⟨_, rfl⟩, HB.out⟩
/-- A bundle: its number, its row. -/
structure Va where
  coin : Int
  pa : Option Addr
  l : List As
  c : Nat
def vaC (v : Va) : Array Value := vC v.coin v.pa v.l.length v.c
theorem vaC_size (v : Va) : (vaC v).size = 2 := rfl
theorem vaC_one (v : Va) : (vaC v).all (·.oneCell') = true := by simp [vaC, vC, Value.oneCell']
theorem info_value : (Tryz.prog.info? 27).map (·.size) = some 2 := by kernel_rfl
/-- The number has 64 bits, the row lies in memory. -/
def VaOk (w : World) (v : Va) : Prop := -9223372036854775808 ≤ v.coin ∧ v.coin < 9223372036854775808 ∧ Row w v.pa v.l
/-- Bundles lie one behind the other. -/
def HasV (w : World) (g off : Nat) (vs : List Va) : Prop := ∀ (i : Nat) (v : Va), vs[i]? = some v → w.rangeAt g (off + i * 2) (vaC v).toList ∧ VaOk w v
theorem HasV.below {B : Nat} {w w' : World} {g off : Nat} {vs : List Va} (h : HasV w g off vs) (hb : Below B w w') (hg : g < B) (hB : w.heap.size ≤ B) : HasV w' g off vs :=
  fun i v hi => ⟨fun j x hj => (hb.cell (p := ⟨g, off + i * 2 + j, none⟩) hg).trans ((h i v hi).1 j x hj), (h i v hi).2.1, (h i v hi).2.2.1, (h i v hi).2.2.2.below hb hB⟩
def RowV (w : World) (pa : Option Addr) (vs : List Va) : Prop := vs.length ≤ maxLen ∧ (0 < vs.length → ∃ g off, pa = some ⟨g, off, none⟩ ∧ g < w.heap.size ∧ HasV w g off vs)
theorem RowV.below {B : Nat} {w w' : World} {pa : Option Addr} {vs : List Va} (h : RowV w pa vs) (hb : Below B w w') (hB : w.heap.size ≤ B) : RowV w' pa vs :=
  ⟨h.1, fun hl => by
    obtain ⟨g, off, e, hg, hh⟩ := h.2 hl
    exact ⟨g, off, e, Nat.lt_of_lt_of_le hg hb.size, hh.below hb (Nat.lt_of_lt_of_le hg hB) hB⟩⟩
/-- A row of bundles: where, which, its room. -/
structure Vr where
  pa : Option Addr
  vs : List Va
  c : Nat
def RowR (w : World) (pa : Option Addr) (rs : List Vr) : Prop := rs.length ≤ maxLen ∧ (0 < rs.length → ∃ g off, pa = some ⟨g, off, none⟩ ∧ g < w.heap.size ∧ ∀ (i : Nat) (r : Vr), rs[i]? = some r → w.cell? ⟨g, off + i, none⟩ = some (.slice r.pa r.vs.length r.c) ∧ RowV w r.pa r.vs)
def SomeB (e : Ending) : Prop := ∃ b, e = .returned (.bool b)
end Go.Proofs.YtilbbemdinpjcaaGreat
namespace Go.Proofs.YtilbbemdinpjcaaGreat
set_option maxRecDepth 100000
open Go.RowKit Go.Sort

theorem info_wide : (Tryz.prog.info? 148).map (·.size) = some 2 := by kernel_rfl
end Go.Proofs.YtilbbemdinpjcaaGreat
namespace Go.Proofs.YtilbbemdinpjcaaGreat
set_option maxRecDepth 100000
open Go.RowKit Go.Sort

/-- A panic of the library's own error, of some number. -/
def Fault (e : Ending) : Prop := ∃ n, e = .panicked [{ v := .iface 64 (.int .i64 n), recovered := false }]
def rightV (v : Va) : Bool := rightB v.coin v.l
def Musts (vs : List Va) (e : Ending) : Prop := (vs.all rightV = true ∧ ∃ v, e = .returned v) ∨ (vs.all rightV = false ∧ Fault e)
def Amounts (x : BitVec 128) (e : Ending) : Prop := (fitsW x = true ∧ e = .returned (.int .i64 x.toNat)) ∨ (fitsW x = false ∧ Fault e)
end Go.Proofs.YtilbbemdinpjcaaGreat
namespace Go.Proofs.YtilbbemdinpjcaaGreat
set_option maxRecDepth 100000

section
variable {P : Program} {md : Region.Mode} {ops : Array Oper} {Q : Exit → Act → World → Prop} {late : Nat → Bool} {S : World → Prop}
/-- Whatever order is picked from here on; S holds behind each operation that is not late. -/
def wpLate (P : Program) (md : Region.Mode) (ops : Array Oper) (Q : Exit → Act → World → Prop) (late : Nat → Bool) (S : World → Prop) : Nat → Array Bool → Act → World → Prop
  | 0, listed, a, w => Region.ready md ops listed = [] ∧ Q .normal a w
  | n + 1, listed, a, w =>
    (Region.ready md ops listed = [] → Q .normal a w) ∧
    ∀ j ∈ Region.ready md ops listed, wpOp P ops Q j (fun a' w' => (late j = false → S w') ∧ wpLate P md ops Q late S n (listed.setIfInBounds j true) a' w') a w
theorem wpLate.any : ∀ (n : Nat) (listed : Array Bool) (a : Act) (w : World), wpLate P md ops Q late S n listed a w → wpAny P md ops Q n listed a w
  | 0, _, _, _, h => h
  | n + 1, _, _, _, h => ⟨h.1, fun j hj => wpOp_mono (fun a' w' h' => wpLate.any n _ a' w' h'.2) (h.2 j hj)⟩
theorem late_first {i : Nat} {oi : Oper} {v : Value} (hi : ops[i]? = some oi) (hsel : ∀ (j : Nat) (o : Oper) cs b, ops[j]? = some o → o.op ≠ .select cs b)
    (hQ : ∀ c a w, Q (.panic c) (a.put oi.dst v) w → Q (.panic c) a w) (hlate : ∀ j oj, ops[j]? = some oj → late j = true → ∃ e, e ∈ oj.after ∧ Region.binds md e = true ∧ e.on = i) (n : Nat) :
    ∀ (listed : Array Bool) (a : Act) (w : World),
      (∀ j oj, ops[j]? = some oj → j ≠ i → listed.getD j true = false → (∀ e ∈ oj.after, Region.binds md e = true → e.on ≠ i) → oi.apart ops oj = true) →
      i ∈ Region.ready md ops listed → YieldsIf P ops S oi v a → S w → wpLate P md ops Q late S n (listed.setIfInBounds i true) (a.put oi.dst v) w → wpLate P md ops Q late S (n + 1) listed a w := by
  induction n with
  | zero =>
    intro listed a w _ hr hy hS H
    refine ⟨fun e => (by rw [e] at hr; cases hr), fun j hj => ?_⟩
    by_cases e : j = i
    · subst e
      exact hy.wpOp hi hS ⟨fun _ => hS, H⟩
    · have hm := ready_mono hj e
      rw [H.1] at hm
      cases hm
  | succ n ih =>
    intro listed a w hap hr hy hS H
    refine ⟨fun e => (by rw [e] at hr; cases hr), fun j hj => ?_⟩
    by_cases e : j = i
    · subst e
      exact hy.wpOp hi hS ⟨fun _ => hS, H⟩
    · obtain ⟨hu, oj, hoj, hall⟩ := mem_ready.1 hj
      have hfree : ∀ x ∈ oj.after, Region.binds md x = true → x.on ≠ i := fun x hx hb he => by
        have q1 := hall x hx hb
        have q0 := (mem_ready.1 hr).1
        rw [he] at q1
        rcases Nat.lt_or_ge i listed.size with hs | hs
        · simp [hs] at q0 q1
          rw [q0] at q1
          cases q1
        · simp [Array.getElem?_eq_none hs] at q1
      have hl : late j = false := by
        cases hlj : late j with
        | false => rfl
        | true =>
          obtain ⟨x, hx, hb, he⟩ := hlate j oj hoj hlj
          exact absurd he (hfree x hx hb)
      have q2 := wpOp_putIf hoj (hap j oj hoj e hu hfree) (fun cs b => hsel i oi cs b hi) (fun cs b => hsel j oj cs b hoj) hQ hy (H.2 j (ready_mono hj e))
      refine wpOp_mono (fun a' w' q3 => ⟨q3.2.1, ih (listed.setIfInBounds j true) a' w' (fun k ok hk hki hun hno => hap k ok hk hki ?_ hno) (ready_mono hr (Ne.symm e)) q3.1 (q3.2.1 hl) ?_⟩) q2
      · by_cases ejk : j = k
        · subst ejk
          exact hu
        · rw [getD_set_ne true ejk] at hun
          exact hun
      · rw [Array.setIfInBounds_comm _ _ e]
        exact q3.2.2
/-- Do all late ones wait for i? -/
def waitsB (md : Region.Mode) (ops : Array Oper) (late : Nat → Bool) (i : Nat) : Bool := (List.range ops.size).all fun j => !late j || (match ops[j]? with | some o => o.after.any fun e => Region.binds md e && e.on == i | none => true)
theorem waits_of {i : Nat} (h : waitsB md ops late i = true) : ∀ j oj, ops[j]? = some oj → late j = true → ∃ e, e ∈ oj.after ∧ Region.binds md e = true ∧ e.on = i := fun j oj hj hl => by
  unfold waitsB at h
  rw [List.all_eq_true] at h
  have h2 := h j (List.mem_range.2 (Array.getElem?_eq_some_iff.1 hj).1)
  rw [hl, hj] at h2
  simp only [Bool.not_true, Bool.false_or, Array.any_eq_true'] at h2
  obtain ⟨e, he, h3⟩ := h2
  rw [Bool.and_eq_true, beq_iff_eq] at h3
  exact ⟨e, he, h3⟩
theorem late_take {i : Nat} {oi : Oper} {v : Value} {n : Nat} {listed : Array Bool} {a : Act} {w : World} (hi : ops[i]? = some oi) (d : Tmp) (hd : oi.dst = some d)
    (hs : Region.noSelect ops = true) (hf : Region.free md ops listed i = true) (hr : (Region.ready md ops listed).contains i = true) (hwt : waitsB md ops late i = true) (hQ : ∀ c a w, Q (.panic c) (a.put (some d) v) w → Q (.panic c) a w)
    (hw : Region.wanted oi (yielded ops a.tmps) = true) (hy : ∀ w, S w → (execOp a.eval oi).run P w = .ok (.value v) w) (hS : S w) (l2 : Array Bool) (hl : listed.setIfInBounds i true = l2)
    (h : wpLate P md ops Q late S n l2 (a.put (some d) v) w) : wpLate P md ops Q late S (n + 1) listed a w := by
  subst hl
  rw [← hd] at h hQ
  exact late_first hi (Region.noSelect_spec hs) hQ (waits_of hwt) n listed a w (Region.free_spec hi hf) (by simpa using hr) (.inl ⟨hw, hy⟩) hS h
theorem late_one {i : Nat} {n : Nat} {listed : Array Bool} {a : Act} {w : World} (hr : Region.ready md ops listed = [i]) (l2 : Array Bool) (hl : listed.setIfInBounds i true = l2)
    (h : wpOp P ops Q i (fun a' w' => (late i = false → S w') ∧ wpLate P md ops Q late S n l2 a' w') a w) : wpLate P md ops Q late S (n + 1) listed a w := by
  subst hl
  refine ⟨fun e => (by rw [hr] at e; cases e), fun j hj => ?_⟩
  rw [hr] at hj
  obtain rfl : j = i := by simpa using hj
  exact h
theorem late_done {listed : Array Bool} {a : Act} {w : World} (hr : Region.ready md ops listed = []) (h : Q .normal a w) : ∀ n, wpLate P md ops Q late S n listed a w
  | 0 => ⟨hr, h⟩
  | _ + 1 => ⟨fun _ => h, (by rw [hr]; simp)⟩
theorem wpOp_skipG {i : Nat} {o : Oper} {a : Act} {w w' : World} {K : Act → World → Prop} (hi : ops[i]? = some o) (hw : Region.wanted o (yielded ops a.tmps) = true) (hd : o.dst = none)
    (hr : (execOp a.eval o).run P w = .ok .skip w') (h : K a w') : wpOp P ops Q i K a w := by
  unfold wpOp
  rw [hi]
  show if Region.wanted o (yielded ops a.tmps) = true then _ else _
  rw [if_pos hw]
  refine .inl ?_
  unfold Oper.wp
  rw [hr]
  show K (a.put o.dst undef) w'
  rw [hd]
  exact h
/-- A panic's post by itself, where no deferred call waits. -/
def OrPanic (T : List PanicEntry → World → Prop) (Q : Exit → Act → World → Prop) : Exit → Act → World → Prop
  | .panic c, a, w => a.defers = [] ∧ T c w
  | e, a, w => Q e a w
theorem wp_region_orPanic {id : Nat} {b : Bool} {a : Act} {w : World} (T : List PanicEntry → World → Prop) (hT : ∀ c a w, a.defers = [] → T c w → Q (.panic c) a w) (h : (Code.region id ops b).wp P (OrPanic T Q) a w) : (Code.region id ops b).wp P Q a w :=
  Code.wp_mono (fun e a w h => by cases e <;> first | exact h | exact hT _ _ _ h.1 h.2) h
theorem wpOp_callP {i : Nat} {o : Oper} {a : Act} {w : World} {K : Act → World → Prop} (hi : ops[i]? = some o) (hw : Region.wanted o (yielded ops a.tmps) = true) (d : Tmp) (hd : o.dst = some d) (f : FuncId) (args : Array Value)
    (hr : (execOp a.eval o).run P w = .ok (.enter f args) w) (R : Value → World → Prop) (T : List PanicEntry → World → Prop) (hc : Calls P f args w fun e w' => (∃ v, e = .returned v ∧ R v w') ∨ (∃ c, e = .panicked c ∧ T c w')) (h : ∀ v w', R v w' → K (a.put (some d) v) w') (hp : ∀ c w', T c w' → Q (.panic c) a w') : wpOp P ops Q i K a w := by
  unfold wpOp
  rw [hi]
  show if Region.wanted o (yielded ops a.tmps) = true then _ else _
  rw [if_pos hw]
  refine .inl ?_
  unfold Oper.wp
  rw [hr, Oper.upon_enter]
  refine hc.mono fun e w' hh => ?_
  rcases hh with ⟨v, rfl, hR⟩ | ⟨c, rfl, hR⟩
  · rw [hd]
    exact h v w' hR
  · exact hp c w' hR
theorem wp_region_late {id : Nat} {a : Act} {w : World} (late : Nat → Bool) (S : World → Prop) (hm : P.follows .mixedOrders = true)
    (h : wpLate P .any ops Q late S ops.size (Array.replicate ops.size false) a { w with drawn := w.drawn + 1 }) : (Code.region id ops true).wp P Q a w :=
  wp_region_any hm (wpLate.any _ _ _ _ h)
end
end Go.Proofs.YtilbbemdinpjcaaGreat
namespace Go.Proofs.YtilbbemdinpjcaaGreat
set_option maxRecDepth 100000
open Go.RowKit Go.Sort

/-- A number of 128 bits, in cells. -/
def wC (x : BitVec 128) : Array Value := #[.int .i64 (hiS x), .int .u64 (loN x)]
theorem wC_one (x : BitVec 128) : (wC x).all (·.oneCell') = true := by simp [wC, Value.oneCell']
theorem wC_zero : wC 0 = #[.int .i64 0, .int .u64 0] := by kernel_rfl
theorem wv_wC (x : BitVec 128) : wv x = .agg (wC x) := rfl
/-- Such numbers lie one behind the other. -/
def HasW (w : World) (g off : Nat) (l : List (BitVec 128)) : Prop := ∀ (i : Nat) (x : BitVec 128), l[i]? = some x → w.rangeAt g (off + i * 2) (wC x).toList
theorem HasW.below {B : Nat} {w w' : World} {g off : Nat} {l : List (BitVec 128)} (h : HasW w g off l) (hb : Below B w w') (hg : g < B) : HasW w' g off l :=
  fun i a hi j v hv => (hb.cell (p := ⟨g, off + i * 2 + j, none⟩) hg).trans (h i a hi j v hv)
def sumL (l : List (BitVec 128)) : BitVec 128 := l.foldl (· + ·) 0
theorem sumL_take {l : List (BitVec 128)} {k : Nat} {x : BitVec 128} (h : l[k]? = some x) : sumL (l.take (k + 1)) = sumL (l.take k) + x := by
  unfold sumL
  rw [List.take_add_one, h, List.foldl_append]
  rfl
end Go.Proofs.YtilbbemdinpjcaaGreat
