/-
  Sums of three bundles: turned round, two by two, one taken away.
-/
import Derived.Test.YtjngghihciimjaaGreatJRg
import Derived.Test.YtjngghihciimjaaGreatJVj
import Derived.Test.YtjngghihciimjaaGreatJRo
import Derived.Test.YtjngghihciimjaaGreatJVt
namespace Go.Proofs.YtjngghihciimjaaGreat
set_option maxRecDepth 100000
open Go.RowKit Go.Sort Go.Maps
def isNz : As → Bool := fun a => decide (a.amt ≠ 0)
def mintB (l : List As) : Bool := decide (l.length ≤ 30) && wellB isNz l
theorem isNz_any (w : World) (a : As) (ha : a.nm.1.length = 32) :
  Calls Tryz.prog 61 #[.agg (asC a)] w fun e w' => e = .returned (.bool (isNz a)) ∧ Below w.heap.size w w' := by
 obtain ⟨va, hva⟩ : ∃ v, v = asC a := ⟨_, rfl⟩
 rw [← hva]
 have hl : Lies (w.alloc (.cells va 38)) w.heap.size va 38 := Lies.new _ _ _
 rw [hva] at hl
 have c33 := hl.cell 33 (asC_amt a ha)
 rw [← hva] at c33
 have hb : Below w.heap.size w (w.alloc (.cells va 38)) := (Below.refl _ _).alloc (Nat.le_refl _) _
 have HB := Lib.hid hb
 clear hl hb hva ha
 unfold isNz
 generalize a.amt = x at c33 ⊢
 by_cases h0 : x = 0
 ·
  subst h0
  go_enter Tryz.func61, Tryz.ntmps61
  go_wp2_with fail
  go_ret
  exact ⟨rfl, HB.out⟩
 ·
  have h1 : (x != 0) = true := by simpa using h0
  have h2 : (x == 0) = false := by simpa using h0
  have h3 : decide (x ≠ 0) = true := decide_eq_true h0
  rw [h3]
  go_enter Tryz.func61, Tryz.ntmps61
  go_wp2_with fail
  go_ret
  exact ⟨rfl, HB.out⟩
theorem enterNz (args : Array Value) (w : World) : (callFunc 61 args).run Tryz.prog w = .ok (.enter 61 args) w :=
 enter_of Tryz.func61 (by kernel_rfl) rfl args w
set_option maxHeartbeats 1000000 in
theorem mints_any (w : World) (pa : Option Addr) (l : List As) (c : Nat) (h : Row w pa l) :
  Calls Tryz.prog 16 #[.slice pa l.length c] w fun e w' => e = .returned (.bool (mintB l)) ∧ Below w.heap.size w w' := by
 have hn : (l.length : Int) ≤ 9223372036854775807 := by have := h.1; unfold maxLen at this; omega
 have hC := well_any 61 isNz enterNz (fun w a ha => isNz_any w a ha) w pa l c h.1 (fun a ha => ⟨(h.2.1 a ha).1, (h.2.1 a ha).2.1⟩) h.2.2
 have H := Lib.hid hC
 clear h hC
 go_enter Tryz.func16, Tryz.ntmps16
 by_cases h30 : l.length ≤ 30
 ·
  have m30 : (l.length : Int) ≤ 30 := by omega
  have HV := Lib.hid (show mintB l = wellB isNz l by unfold mintB; simp [h30])
  go_wp2_with fail
  refine H.out.mono ?_
  rintro e w2 ⟨rfl, hb2⟩
  go_wp2_with fail
  go_ret
  refine ⟨?_, hb2⟩
  rw [HV.out]
  rfl
 ·
  have m30 : ¬ (l.length : Int) ≤ 30 := by omega
  have HV := Lib.hid (show mintB l = false by unfold mintB; simp [h30])
  go_wp2_with fail
  go_ret
  refine ⟨?_, Below.refl _ _⟩
  rw [HV.out]
  rfl
theorem well_more {p : As → Bool} {l : List As} (h : ∀ a, a ∈ l → p a = true) : wellB p l = wellB anyAs l := by
 unfold wellB
 rw [Bool.eq_iff_iff, List.all_eq_true, List.all_eq_true]
 have e : ∀ i, i ∈ List.range l.length → okAt p l i = okAt anyAs l i := fun i hi => by
  have hlt := List.mem_range.1 hi
  have hp : p (l.getD i default) = true := h _ (by
   rw [List.getD_eq_getElem?_getD, List.getElem?_eq_getElem hlt]
   exact List.getElem_mem hlt)
  unfold okAt
  rw [hp]
  rfl
 exact ⟨fun hh i hi => by rw [← e i hi]; exact hh i hi, fun hh i hi => by rw [e i hi]; exact hh i hi⟩
theorem well_less {p : As → Bool} {l : List As} {a : As} (ha : a ∈ l) (h : p a = false) : wellB p l = false := by
 obtain ⟨i, hi⟩ := List.getElem?_of_mem ha
 refine well_no (List.getElem?_eq_some_iff.1 hi).1 ?_
 unfold okAt
 rw [getD_of hi, h, Bool.and_false]
 rfl
set_option maxHeartbeats 4000000 in
theorem rmints_any (w : World) (pa : Option Addr) (l : List As) (c : Nat) (h : Row w pa l) :
  Calls Tryz.prog 17 #[.slice pa l.length c] w fun e w' => e = .returned (.bool (mintB l)) ∧ Below w.heap.size w w' := by
 have hli : (l.length : Int) ≤ 9223372036854775807 := by have := h.1; unfold maxLen at this; omega
 have hris := rrising_any w pa l c h
 have H := Lib.hid (And.intro h hris)
 clear h hris
 go_enter Tryz.func17, Tryz.ntmps17
 go_wp2_with fail
 go_loopw [3] (fun i W => ∃ k : Nat, k ≤ l.length ∧ i = .int .i64 k ∧ (∀ a, a ∈ l.take k → isNz a = true) ∧ W = w) (fun i _ => l.length - (intOf i).toNat)
 case atStart => exact ⟨0, Nat.zero_le _, rfl, fun a ha => by simp at ha, rfl⟩
 case round =>
  obtain ⟨k, hk, rfl, hall, rfl⟩ := hrel
  by_cases hlt : k < l.length
  ·
   have m1 : (k : Int) < (l.length : Int) := by omega
   have m0 : (0 : Int) ≤ (k : Int) := by omega
   obtain ⟨g, off, rfl, hg, hh⟩ := H.out.1.2.2 (by omega)
   obtain ⟨y, hy⟩ : ∃ y, y = l[k] := ⟨_, rfl⟩
   have hky : l[k]? = some y := by rw [hy, List.getElem?_eq_getElem hlt]
   have oky := H.out.1.2.1 y (List.mem_of_getElem? hky)
   have c33 := asC_amtR oky.1 (hh k y hky)
   have hnz : isNz y = decide (y.amt ≠ 0) := rfl
   have hmem := List.mem_of_getElem? hky
   have htk : l.take (k + 1) = l.take k ++ [y] := by rw [List.take_add_one, hky]; rfl
   generalize y.amt = x at c33 hnz
   by_cases h0 : x = 0
   ·
    subst h0
    have hno : mintB l = false := by unfold mintB; rw [well_less hmem (by rw [hnz]; rfl), Bool.and_false]
    have HR := Lib.hid hno
    clear hno hall hk hlt hg hh hy hky oky hnz hmem htk
    go_wp2_with fail
    go_ret
    exact ⟨by rw [HR.out]; rfl, Below.refl _ _⟩
   ·
    have h2 : (x == 0) = false := by simpa using h0
    have hyes : isNz y = true := by rw [hnz]; exact decide_eq_true h0
    have HR := Lib.hid (And.intro hyes (And.intro hlt (And.intro hall htk)))
    clear hyes hlt hall htk hk hg hh hy hky oky hnz hmem h0
    go_wp2_with fail
    have e1 : (k : Int) + 1 = ((k + 1 : Nat) : Int) := by omega
    rw [e1]
    refine ⟨⟨k + 1, HR.out.2.1, rfl, fun a ha => ?_, trivial⟩, ?_⟩
    ·
     rw [HR.out.2.2.2] at ha
     rcases List.mem_append.1 ha with ha | ha
     ·
      exact HR.out.2.2.1 a ha
     ·
      rw [List.mem_singleton] at ha
      rw [ha]; exact HR.out.1
    ·
     have h := HR.out.2.1
     show l.length - (k + 1) < l.length - k
     omega
  ·
   have m1 : ¬ (k : Int) < (l.length : Int) := by omega
   have e1 : k = l.length := by omega
   rw [e1, List.take_length] at hall
   have hres : mintB l = risB l := by unfold mintB risB; rw [well_more hall, Bool.and_comm]
   have HE := Lib.hid hres
   clear hres hall hk hlt e1
   go_wp2_with fail
   refine H.out.2.mono ?_
   rintro e w2 ⟨rfl, hb⟩
   go_wp2_with fail
   go_ret
   exact ⟨by rw [HE.out]; rfl, hb⟩
set_option maxHeartbeats 4000000 in
theorem rright_any (w : World) (coin : Int) (pa : Option Addr) (l : List As) (c : Nat) (h : Row w pa l) :
  Calls Tryz.prog 15 #[.agg #[.int .i64 coin, .slice pa l.length c]] w fun e w' => e = .returned (.bool (rightB coin l)) ∧ Below w.heap.size w w' := by
 have hli : (l.length : Int) ≤ 9223372036854775807 := by have := h.1; unfold maxLen at this; omega
 have hb0 : Below w.heap.size w (w.alloc (.cells #[.int .i64 coin, .slice pa l.length c] 24)) := (Below.refl _ _).alloc (Nat.le_refl _) _
 have hL : Lies (w.alloc (.cells #[.int .i64 coin, .slice pa l.length c] 24)) w.heap.size #[.int .i64 coin, .slice pa l.length c] 24 := Lies.new _ _ _
 have h0 := h.below hb0 (Nat.le_refl _)
 have hris := rrising_any _ pa l c h0
 go_enter Tryz.func15, Tryz.ntmps15
 go_upto_region 1 with fail
 generalize w.alloc (.cells #[.int .i64 coin, .slice pa l.length c] 24) = W0 at hb0 hL h0 hris ⊢
 have q0 := hL.cell 0 (v := .int .i64 coin) rfl
 have q1 := hL.cell 1 (v := .slice pa l.length c) rfl
 have H := Lib.hid (And.intro h0 (And.intro hris hb0))
 clear h h0 hris hb0 hL
 go_wp2_with fail
 go_loopw [3] (fun i W => ∃ k : Nat, k ≤ l.length ∧ i = .int .i64 k ∧ (∀ a, a ∈ l.take k → isPos a = true) ∧ W = W0) (fun i _ => l.length - (intOf i).toNat)
 case atStart => exact ⟨0, Nat.zero_le _, rfl, fun a ha => by simp at ha, rfl⟩
 case round =>
  obtain ⟨k, hk, rfl, hall, rfl⟩ := hrel
  by_cases hlt : k < l.length
  ·
   have m1 : (k : Int) < (l.length : Int) := by omega
   have m0 : (0 : Int) ≤ (k : Int) := by omega
   obtain ⟨g, off, rfl, hg, hh⟩ := H.out.1.2.2 (by omega)
   obtain ⟨y, hy⟩ : ∃ y, y = l[k] := ⟨_, rfl⟩
   have hky : l[k]? = some y := by rw [hy, List.getElem?_eq_getElem hlt]
   have oky := H.out.1.2.1 y (List.mem_of_getElem? hky)
   have c33 := asC_amtR oky.1 (hh k y hky)
   have hnz : isPos y = decide (1 ≤ y.amt) := rfl
   have hmem := List.mem_of_getElem? hky
   have htk : l.take (k + 1) = l.take k ++ [y] := by rw [List.take_add_one, hky]; rfl
   generalize y.amt = x at c33 hnz
   by_cases h1 : x < 1
   ·
    have hno : rightB coin l = false := by unfold rightB; rw [well_less hmem (by rw [hnz]; exact decide_eq_false (by omega)), Bool.and_false]
    have HR := Lib.hid hno
    clear hno hall hk hlt hg hh hy hky oky hnz hmem htk
    go_wp2_with fail
    go_ret
    exact ⟨by rw [HR.out]; rfl, H.out.2.2⟩
   ·
    have hyes : isPos y = true := by rw [hnz]; exact decide_eq_true (by omega)
    have HR := Lib.hid (And.intro hyes (And.intro hlt (And.intro hall htk)))
    clear hyes hlt hall htk hk hg hh hy hky oky hnz hmem
    go_wp2_with fail
    have e1 : (k : Int) + 1 = ((k + 1 : Nat) : Int) := by omega
    rw [e1]
    refine ⟨⟨k + 1, HR.out.2.1, rfl, fun a ha => ?_, trivial⟩, ?_⟩
    ·
     rw [HR.out.2.2.2] at ha
     rcases List.mem_append.1 ha with ha | ha
     ·
      exact HR.out.2.2.1 a ha
     ·
      rw [List.mem_singleton] at ha
      rw [ha]; exact HR.out.1
    ·
     have h := HR.out.2.1
     show l.length - (k + 1) < l.length - k
     omega
  ·
   have m1 : ¬ (k : Int) < (l.length : Int) := by omega
   have e1 : k = l.length := by omega
   rw [e1, List.take_length] at hall
   by_cases hc : 0 ≤ coin
   ·
    have hres : rightB coin l = risB l := by unfold rightB risB; rw [well_more hall, decide_eq_true hc, Bool.true_and, Bool.and_comm]
    have HE := Lib.hid hres
    clear hres hall hk hlt e1
    go_wp2_with fail
    refine H.out.2.1.mono ?_
    rintro e w2 ⟨rfl, hb⟩
    go_wp2_with fail
    go_ret
    exact ⟨by rw [HE.out]; rfl, H.out.2.2.trans (hb.mono H.out.2.2.size)⟩
   ·
    have hres : rightB coin l = false := by unfold rightB; rw [decide_eq_false hc]; rfl
    have HE := Lib.hid hres
    clear hres hall hk hlt e1
    go_wp2_with fail
    go_ret
    exact ⟨by rw [HE.out]; rfl, H.out.2.2⟩
end Go.Proofs.YtjngghihciimjaaGreat
namespace Go.Proofs.YtjngghihciimjaaGreat
set_option maxRecDepth 100000
open Go.RowKit Go.Sort
set_option maxHeartbeats 4000000 in
theorem equalT_any (w : World) (pa pb : Option Addr) (l m : List To) (c e : Nat) (hl : RowT w pa l) (hm : RowT w pb m) :
  Calls Tryz.prog 72 #[.slice pa l.length c, .slice pb m.length e] w fun e w' => e = .returned (.bool (decide (l = m))) ∧ Below w.heap.size w w' := by
 have hli : (l.length : Int) ≤ 9223372036854775807 := by have := hl.1; unfold maxLen at this; omega
 have hmi : (m.length : Int) ≤ 9223372036854775807 := by have := hm.1; unfold maxLen at this; omega
 have HS := Lib.hid (And.intro hl hm)
 clear hl hm
 by_cases hlen : l.length = m.length
 ·
  rw [hlen]
  have HL := Lib.hid hlen
  clear hlen
  go_enter Tryz.func72, Tryz.ntmps72
  go_wp2_with fail
  go_loopw [13] (fun i W => ∃ k : Nat, k ≤ m.length ∧ i = .int .i64 k ∧ Below w.heap.size w W ∧ ∀ i, i < k → l[i]? = m[i]?) (fun i _ => m.length - (intOf i).toNat)
  case atStart => exact ⟨0, Nat.zero_le _, rfl, Below.refl _ _, fun i hi => absurd hi (by omega)⟩
  case round =>
   obtain ⟨k, hk, rfl, hb, hall⟩ := hrel
   have hlen := HL.out
   by_cases hlt : k < m.length
   ·
    have m1 : (k : Int) < (m.length : Int) := by omega
    have m0 : (0 : Int) ≤ (k : Int) := by omega
    obtain ⟨g, off, rfl, hg, hh⟩ := HS.out.1.2.2 (by omega)
    obtain ⟨g', off', rfl, hg', hh'⟩ := HS.out.2.2.2 (by omega)
    obtain ⟨a, ha⟩ : ∃ a, a = l[k] := ⟨_, rfl⟩
    obtain ⟨b, hb'⟩ : ∃ b, b = m[k] := ⟨_, rfl⟩
    have hka : l[k]? = some a := by rw [ha, List.getElem?_eq_getElem (by omega)]
    have hkb : m[k]? = some b := by rw [hb', List.getElem?_eq_getElem hlt]
    have oka := HS.out.1.2.1 a (List.mem_of_getElem? hka)
    have okb := HS.out.2.2.1 b (List.mem_of_getElem? hkb)
    obtain ⟨va, hva⟩ : ∃ v, v = toC a := ⟨_, rfl⟩
    obtain ⟨vb, hvb⟩ : ∃ v, v = toC b := ⟨_, rfl⟩
    have hvs : va.size = 35 := by rw [hva]; exact toC_size a oka.1
    have hvt : vb.size = 35 := by rw [hvb]; exact toC_size b okb.1
    have heq : ∀ W, (Op.equalIn 10000 75 (.agg va) (.agg vb)).run Tryz.prog W = .ok (decide (a = b)) W := fun W => by rw [hva, hvb]; exact eq_to W a b oka okb
    have HR1 : Hid (∀ W, Below w.heap.size w W → W.rangeAt g (off + k * 35) va.toList ∧ W.rangeAt g' (off' + k * 35) vb.toList) := Lib.hid fun W hW => by
     rw [hva, hvb]
     exact ⟨(hh.below hW hg) k a hka, (hh'.below hW hg') k b hkb⟩
    have HR := Lib.hid (And.intro hb (And.intro hall (And.intro hlt (And.intro hka (And.intro hkb (And.intro hvs hvt))))))
    have HI := Lib.hid (And.intro (show (Tryz.prog.info? 75).map (·.size) = some va.size by rw [hvs]; exact info_total) (show (Tryz.prog.info? 75).map (·.size) = some vb.size by rw [hvt]; exact info_total))
    clear hlen hb hall hlt hk ha hb' hka hkb oka okb hva hvb hvs hvt hh hh' hg hg'
    go_upto_region 6 with fail
    refine wp_region_noPanic (wp_region_held (S := fun V => V.rangeAt g (off + k * 35) va.toList ∧ V.rangeAt g' (off' + k * 35) vb.toList) (by kernel_rfl) ?_)
    change wpAnyH _ _ _ _ _ 9 _ _ (World.drew wr)
    have hcur := HR1.out _ HR.out.1.drew
    have hbd : Below w.heap.size w wr.drew := HR.out.1.drew
    have HBD := Lib.hid hbd
    clear hbd
    by_cases hab : a = b
    ·
     have hd : decide (a = b) = true := by simp [hab]
     have HAB := Lib.hid hab
     clear hab
     refine tk 0 (.slice (some ⟨g, off, none⟩) m.length c) 16 rfl rfl hcur ?_
     refine tk 1 (.int .i64 k) 17 rfl rfl hcur ?_
     refine tk 2 (.pointer (some ⟨g, off + k * 35, none⟩)) 18 rfl rfl hcur ?_ (by intro w' hS'; unfold execOp; simp [go_sem, m0, m1])
     refine tk 3 (.agg va) 19 rfl rfl hcur ?_ (by intro w' hS'; exact exec_loadM 75 _ rfl _ _ rfl va hS'.1 Tryz.underlying75 rfl HI.out.1)
     refine tk 4 (.slice (some ⟨g', off', none⟩) m.length e) 20 rfl rfl hcur ?_
     refine tk 5 (.int .i64 k) 21 rfl rfl hcur ?_
     refine tk 6 (.pointer (some ⟨g', off' + k * 35, none⟩)) 22 rfl rfl hcur ?_ (by intro w' hS'; unfold execOp; simp [go_sem, m0, m1])
     refine tk 7 (.agg vb) 23 rfl rfl hcur ?_ (by intro w' hS'; exact exec_loadM 75 _ rfl _ _ rfl vb hS'.2 Tryz.underlying75 rfl HI.out.2)
     refine tk 8 (.bool false) 24 rfl rfl hcur ?_ (by intro w' hS'; unfold execOp; simp [go_sem, heq, hd])
     refine wpAnyH_done (by kernel_rfl) ?_ _
     unfold NoPanic
     dsimp only
     clear hcur heq hd
     go_wp2_with fail
     have e1 : (k : Int) + 1 = ((k + 1 : Nat) : Int) := by omega
     rw [e1]
     refine ⟨⟨k + 1, HR.out.2.2.1, rfl, HBD.out, fun i hi => ?_⟩, ?_⟩
     ·
      by_cases e : i = k
      ·
       rw [e, HR.out.2.2.2.1, HR.out.2.2.2.2.1, HAB.out]
      ·
       exact HR.out.2.1 i (by omega)
     ·
      have h := HR.out.2.2.1
      show m.length - (k + 1) < m.length - k
      omega
    ·
     have hd : decide (a = b) = false := by simp [hab]
     have HAB := Lib.hid (show l ≠ m from fun e => hab (by
      have h1 := HR.out.2.2.2.1
      rw [e, HR.out.2.2.2.2.1] at h1
      exact (Option.some.inj h1).symm))
     clear hab
     refine tk 0 (.slice (some ⟨g, off, none⟩) m.length c) 16 rfl rfl hcur ?_
     refine tk 1 (.int .i64 k) 17 rfl rfl hcur ?_
     refine tk 2 (.pointer (some ⟨g, off + k * 35, none⟩)) 18 rfl rfl hcur ?_ (by intro w' hS'; unfold execOp; simp [go_sem, m0, m1])
     refine tk 3 (.agg va) 19 rfl rfl hcur ?_ (by intro w' hS'; exact exec_loadM 75 _ rfl _ _ rfl va hS'.1 Tryz.underlying75 rfl HI.out.1)
     refine tk 4 (.slice (some ⟨g', off', none⟩) m.length e) 20 rfl rfl hcur ?_
     refine tk 5 (.int .i64 k) 21 rfl rfl hcur ?_
     refine tk 6 (.pointer (some ⟨g', off' + k * 35, none⟩)) 22 rfl rfl hcur ?_ (by intro w' hS'; unfold execOp; simp [go_sem, m0, m1])
     refine tk 7 (.agg vb) 23 rfl rfl hcur ?_ (by intro w' hS'; exact exec_loadM 75 _ rfl _ _ rfl vb hS'.2 Tryz.underlying75 rfl HI.out.2)
     refine tk 8 (.bool true) 24 rfl rfl hcur ?_ (by intro w' hS'; unfold execOp; simp [go_sem, heq, hd])
     refine wpAnyH_done (by kernel_rfl) ?_ _
     unfold NoPanic
     dsimp only
     clear hcur heq hd
     go_wp2_with fail
     go_ret
     refine ⟨?_, HBD.out⟩
     rw [decide_eq_false HAB.out]
     rfl
   ·
    have e1 : k = m.length := by omega
    have HF := Lib.hid (And.intro hb (show l = m from List.ext_getElem? fun i => by
     by_cases hi : i < k
     ·
      exact hall i hi
     ·
      rw [List.getElem?_eq_none (by omega), List.getElem?_eq_none (by omega)]))
    have m1 : ¬ (k : Int) < (m.length : Int) := by omega
    clear hb hall e1 hk hlt hlen
    go_wp2_with fail
    go_ret
    refine ⟨?_, HF.out.1⟩
    rw [decide_eq_true HF.out.2]
    rfl
 ·
  have hne : ¬ (l.length : Int) = (m.length : Int) := by omega
  have HN := Lib.hid (show l ≠ m from fun e => hlen (by rw [e]))
  clear hlen
  go_enter Tryz.func72, Tryz.ntmps72
  go_wp2_with fail
  go_ret
  refine ⟨?_, Below.refl _ _⟩
  rw [decide_eq_false HN.out]
  rfl
end Go.Proofs.YtjngghihciimjaaGreat
namespace Go.Proofs.YtjngghihciimjaaGreat
set_option maxRecDepth 100000
open Go.RowKit Go.Sort Go.Maps
theorem OwnVs.row {w : World} {B : Nat} {v : Value} {vs : List Va} (h : OwnVs w B v vs) (ho : ∀ a, a ∈ vs → VaOk w a) (hl : vs.length ≤ maxLen) : ∃ pa c, v = .slice pa vs.length c ∧ RowV w pa vs := by
 rcases own_at vaC 2 (fun a _ => vaC_size a) h with ⟨h1, rfl⟩ | ⟨g, cap, h1, h2, h3, h4, h5, _⟩
 ·
  exact ⟨none, 0, h1, hl, fun h => absurd h (by simp)⟩
 ·
  exact ⟨_, cap, h1, hl, fun _ => ⟨g, 0, rfl, h3, fun i a hi => ⟨h5 i a hi, ho a (List.mem_of_getElem? hi)⟩⟩⟩
theorem RowV.ok {w : World} {pa : Option Addr} {vs : List Va} (h : RowV w pa vs) : ∀ v, v ∈ vs → VaOk w v := fun v hv => by
 obtain ⟨i, hi⟩ := List.getElem?_of_mem hv
 obtain ⟨g, off, _, _, hh⟩ := h.2 (by have := (List.getElem?_eq_some_iff.1 hi).1; omega)
 exact (hh i v hi).2
theorem more_any (w : World) (g1 g2 : Nat) (pi : Option Addr) (vs : List Va) (ci : Nat) (m : Va) (h : RowV w pi vs) (hm : VaOk w m) (hci : pi = none → ci = 0) (hlen : vs.length + 1 ≤ 1000000)
  (h1 : Lies w g1 (vaC m) 24) (h2 : Lies w g2 #[.slice pi vs.length ci, .slice (some ⟨g1, 0, none⟩) 1 1] 28) :
  Calls Tryz.prog 71 #[.slice (some ⟨g2, 0, none⟩) 2 2] w fun e w' => (∃ p c, e = .returned (.slice p (vs ++ [m]).length c) ∧ RowV w' p (vs ++ [m])) ∧ Below w.heap.size w w' := by
 have hrow : RowR w (some ⟨g2, 0, none⟩) [⟨pi, vs, ci⟩, ⟨some ⟨g1, 0, none⟩, [m], 1⟩] := ⟨show 2 ≤ maxLen by decide, fun _ => ⟨g2, 0, rfl, h2.lt, fun i r hr => by
  have hi : i = 0 ∨ i = 1 := by have := (List.getElem?_eq_some_iff.1 hr).1; simp at this; omega
  rcases hi with rfl | rfl
  ·
   simp at hr; subst hr; exact ⟨h2.cell 0 rfl, h⟩
  ·
   simp at hr; subst hr
   exact ⟨h2.cell 1 rfl, rowV_of h1 (by simp [cellsF]) (fun v hv => by rw [List.mem_singleton] at hv; rw [hv]; exact hm) (show 1 ≤ maxLen by decide)⟩⟩⟩
 have hfl : flatV [⟨pi, vs, ci⟩, ⟨some ⟨g1, 0, none⟩, [m], 1⟩] = vs ++ [m] := by simp [flatV]
 have hc := concat_any w (some ⟨g2, 0, none⟩) [⟨pi, vs, ci⟩, ⟨some ⟨g1, 0, none⟩, [m], 1⟩] 2 hrow (by rw [hfl, List.length_append]; simpa using hlen) (fun r hr hp => by
  rcases List.mem_cons.1 hr with rfl | hr
  ·
   exact hci hp
  ·
   rw [List.mem_singleton] at hr; subst hr; cases hp)
 refine hc.mono fun e w' hh => ?_
 obtain ⟨⟨v, he, hown⟩, hb⟩ := hh
 rw [hfl] at hown
 obtain ⟨p, c, hv, hr⟩ := hown.row (fun a ha => by
  rcases List.mem_append.1 ha with ha | ha
  ·
   exact (h.ok a ha).below hb (Nat.le_refl _)
  ·
   rw [List.mem_singleton] at ha; rw [ha]; exact hm.below hb (Nat.le_refl _)) (by rw [List.length_append]; exact Nat.le_trans hlen (by decide))
 exact ⟨⟨p, c, by rw [he, hv], hr⟩, hb⟩
def BalOk (vs us : List Va) (ok : Bool) : Prop := ok = true ↔ coinS vs = coinS us ∧ ∀ n, sumAt (ctsL vs) n = sumAt (ctsL us) n
def BalRes (vs us : List Va) (e : Ending) : Prop := ∃ ok, e = .returned (.bool ok) ∧ BalOk vs us ok
theorem tot_same {vs us : List Va} {lt lu : List To} (h : IsTot (sumAt (ctsL vs)) (lt.map fun t => (t.nm, t.w))) (k : IsTot (sumAt (ctsL us)) (lu.map fun t => (t.nm, t.w))) : lt = lu ↔ ∀ n, sumAt (ctsL vs) n = sumAt (ctsL us) n := by
 constructor
 ·
  rintro rfl n
  rw [← h.sum n, ← k.sum n]
 ·
  intro e
  exact ctT_inj ((h.congr fun n => e n).eq k)
set_option maxHeartbeats 8000000 in
theorem balance_any (w : World) (pi : Option Addr) (vs : List Va) (ci : Nat) (pm : Option Addr) (ml : List As) (cm : Nat) (po : Option Addr) (us : List Va) (co : Nat) (fee : Int)
  (hv : RowV w pi vs) (hm : Row w pm ml) (hu : RowV w po us) (f0 : -9223372036854775808 ≤ fee) (f1 : fee < 9223372036854775808) (hci : pi = none → ci = 0) (hco : po = none → co = 0)
  (n1 : vs.length + 1 ≤ 1000000) (n2 : us.length + 1 ≤ 1000000) (c1 : (ctsL (vs ++ [⟨0, pm, ml, cm⟩])).length ≤ 1000000) (c2 : (ctsL (us ++ [⟨fee, none, [], 0⟩])).length ≤ 1000000)
  (a1 : ∀ p, p ∈ ctsL (vs ++ [⟨0, pm, ml, cm⟩]) → p.1.1.length = 32 ∧ p.1.2.length ≤ 281474976710656) (a2 : ∀ p, p ∈ ctsL (us ++ [⟨fee, none, [], 0⟩]) → p.1.1.length = 32 ∧ p.1.2.length ≤ 281474976710656) :
  Calls Tryz.prog 29 #[.slice pi vs.length ci, .slice pm ml.length cm, .slice po us.length co, .int .i64 fee] w fun e w' => BalRes (vs ++ [⟨0, pm, ml, cm⟩]) (us ++ [⟨fee, none, [], 0⟩]) e ∧ Below w.heap.size w w' := by
 have hcon : ∀ W g1 g2, Below w.heap.size w W → Lies W g1 #[.int .i64 0, .slice pm ml.length cm] 24 → Lies W g2 #[.slice pi vs.length ci, .slice (some ⟨g1, 0, none⟩) 1 1] 28 → Calls Tryz.prog 71 #[.slice (some ⟨g2, 0, none⟩) 2 2] W fun e w' => (∃ p c, e = .returned (.slice p (vs ++ [(⟨0, pm, ml, cm⟩ : Va)]).length c) ∧ RowV w' p (vs ++ [⟨0, pm, ml, cm⟩])) ∧ Below W.heap.size W w' := fun W g1 g2 hW q1 q2 =>
  more_any W g1 g2 pi vs ci ⟨0, pm, ml, cm⟩ (hv.below hW (Nat.le_refl _)) ⟨by show (-9223372036854775808 : Int) ≤ 0; omega, by show (0 : Int) < 9223372036854775808; omega, hm.below hW (Nat.le_refl _)⟩ hci n1 q1 q2
 have hcon2 : ∀ W g1 g2, Below w.heap.size w W → Lies W g1 #[.int .i64 fee, .slice none 0 0] 24 → Lies W g2 #[.slice po us.length co, .slice (some ⟨g1, 0, none⟩) 1 1] 28 → Calls Tryz.prog 71 #[.slice (some ⟨g2, 0, none⟩) 2 2] W fun e w' => (∃ p c, e = .returned (.slice p (us ++ [(⟨fee, none, [], 0⟩ : Va)]).length c) ∧ RowV w' p (us ++ [⟨fee, none, [], 0⟩])) ∧ Below W.heap.size W w' := fun W g1 g2 hW q1 q2 =>
  more_any W g1 g2 po us co ⟨fee, none, [], 0⟩ (hu.below hW (Nat.le_refl _)) ⟨f0, f1, row_nil _⟩ hco n2 q1 q2
 obtain ⟨vm, hvm⟩ : ∃ l, l = vs ++ [(⟨0, pm, ml, cm⟩ : Va)] := ⟨_, rfl⟩
 obtain ⟨uf, huf⟩ : ∃ l, l = us ++ [(⟨fee, none, [], 0⟩ : Va)] := ⟨_, rfl⟩
 rw [← hvm] at hcon c1 a1 ⊢
 rw [← huf] at hcon2 c2 a2 ⊢
 have H := Lib.hid (And.intro hcon (And.intro hcon2 (And.intro c1 (And.intro c2 (And.intro a1 a2)))))
 clear hcon hcon2 c1 c2 a1 a2 hvm huf hv hm hu f0 f1 hci hco n1 n2
 have hb1 : Below w.heap.size w ((w.alloc (.cells #[.int .i64 0, .slice pm ml.length cm] 24)).alloc (.cells #[.slice pi vs.length ci, .slice (some ⟨w.heap.size, 0, none⟩) 1 1] 28)) := ((Below.refl _ _).alloc (Nat.le_refl _) _).alloc (by simp) _
 have hL2 := Lies.new (w.alloc (.cells #[.int .i64 0, .slice pm ml.length cm] 24)) #[.slice pi vs.length ci, .slice (some ⟨w.heap.size, 0, none⟩) 1 1] 28
 have hcc := H.out.1 ((w.alloc (.cells #[.int .i64 0, .slice pm ml.length cm] 24)).alloc (.cells #[.slice pi vs.length ci, .slice (some ⟨w.heap.size, 0, none⟩) 1 1] 28)) w.heap.size (w.heap.size + 1) hb1 ((Lies.new _ _ _).alloc _) (by simpa using hL2)
 clear hL2
 have HC := Lib.hid (And.intro hcc hb1)
 clear hcc hb1
 go_enter Tryz.func29, Tryz.ntmps29
 go_wp2_with fail
 refine HC.out.1.mono ?_
 rintro e w2 ⟨⟨p2, c2, rfl, hr2⟩, hb2⟩
 have hbw2 := HC.out.2.trans (hb2.mono HC.out.2.size)
 have hs2 := sums_any totals_any w2 p2 vm c2 hr2 H.out.2.2.1 H.out.2.2.2.2.1
 have H2 := Lib.hid (And.intro hbw2 hs2)
 clear hbw2 hs2 hb2 hr2 HC
 go_wp2_with fail
 refine H2.out.2.mono ?_
 rintro e w3 ⟨⟨p3, lt, c3, rfl, hr3, ht3⟩, hb3⟩
 have hbw3 := H2.out.1.trans (hb3.mono H2.out.1.size)
 obtain ⟨s, hs⟩ : ∃ s, s = coinS vm := ⟨_, rfl⟩
 rw [← hs]
 have H3 := Lib.hid (And.intro hbw3 (And.intro hr3 (And.intro ht3 hs)))
 clear hbw3 hb3 hr3 ht3 hs H2
 unfold wv
 go_upto_region 2 with fail
 have hb4 : Below w3.heap.size w3 (w3.alloc (.cells #[.int .i64 (hiS s), .int .u64 (loN s)] 48)) := (Below.refl _ _).alloc (Nat.le_refl _) _
 have hL4 : Lies (w3.alloc (.cells #[.int .i64 (hiS s), .int .u64 (loN s)] 48)) w3.heap.size #[.int .i64 (hiS s), .int .u64 (loN s)] 48 := Lies.new _ _ _
 generalize w3.alloc (.cells #[.int .i64 (hiS s), .int .u64 (loN s)] 48) = w4 at hb4 hL4 ⊢
 obtain ⟨b4, hb4e⟩ : ∃ b, b = w3.heap.size := ⟨_, rfl⟩
 rw [← hb4e] at hL4 ⊢
 have hbw4 := H3.out.1.trans (hb4.mono H3.out.1.size)
 have hr4 := H3.out.2.1.below hb4 (Nat.le_refl _)
 have H4 := Lib.hid (And.intro hbw4 (And.intro hr4 hL4))
 clear hb4 hL4 hbw4 hr4 hb4e
 have hb5 : Below w4.heap.size w4 ((w4.alloc (.cells #[.int .i64 fee, .slice none 0 0] 24)).alloc (.cells #[.slice po us.length co, .slice (some ⟨w4.heap.size, 0, none⟩) 1 1] 28)) := ((Below.refl _ _).alloc (Nat.le_refl _) _).alloc (by simp) _
 have hL5 := Lies.new (w4.alloc (.cells #[.int .i64 fee, .slice none 0 0] 24)) #[.slice po us.length co, .slice (some ⟨w4.heap.size, 0, none⟩) 1 1] 28
 have hcc := H.out.2.1 ((w4.alloc (.cells #[.int .i64 fee, .slice none 0 0] 24)).alloc (.cells #[.slice po us.length co, .slice (some ⟨w4.heap.size, 0, none⟩) 1 1] 28)) w4.heap.size (w4.heap.size + 1) (H4.out.1.trans (hb5.mono H4.out.1.size)) ((Lies.new _ _ _).alloc _) (by simpa using hL5)
 have HC := Lib.hid (And.intro hcc hb5)
 clear hcc hb5 hL5
 go_wp2_with fail
 refine HC.out.1.mono ?_
 rintro e w6 ⟨⟨p6, c6, rfl, hr6⟩, hb6⟩
 have hb46 := HC.out.2.trans (hb6.mono HC.out.2.size)
 have hs6 := sums_any totals_any w6 p6 uf c6 hr6 H.out.2.2.2.1 H.out.2.2.2.2.2
 have H6 := Lib.hid (And.intro hb46 hs6)
 clear hb46 hs6 hb6 hr6 HC
 go_wp2_with fail
 refine H6.out.2.mono ?_
 rintro e w7 ⟨⟨p7, lu, c7, rfl, hr7, ht7⟩, hb7⟩
 have hb47 := H6.out.1.trans (hb7.mono H6.out.1.size)
 obtain ⟨s', hs'⟩ : ∃ s, s = coinS uf := ⟨_, rfl⟩
 rw [← hs']
 have H7 := Lib.hid (And.intro hb47 (And.intro hr7 (And.intro ht7 hs')))
 clear hb47 hb7 hr7 ht7 hs' H6
 unfold wv
 go_upto_region 3 with fail
 have hb8 : Below w7.heap.size w7 (w7.alloc (.cells #[.int .i64 (hiS s'), .int .u64 (loN s')] 48)) := (Below.refl _ _).alloc (Nat.le_refl _) _
 have hL8 : Lies (w7.alloc (.cells #[.int .i64 (hiS s'), .int .u64 (loN s')] 48)) w7.heap.size #[.int .i64 (hiS s'), .int .u64 (loN s')] 48 := Lies.new _ _ _
 generalize w7.alloc (.cells #[.int .i64 (hiS s'), .int .u64 (loN s')] 48) = w8 at hb8 hL8 ⊢
 have hb48 := H7.out.1.trans (hb8.mono H7.out.1.size)
 have hL48 := H4.out.2.2.below hb48 H4.out.2.2.lt
 have q0 := hL48.cell 0 (v := .int .i64 (hiS s)) rfl
 have q1 := hL48.cell 1 (v := .int .u64 (loN s)) rfl
 have q2 := hL8.cell 0 (v := .int .i64 (hiS s')) rfl
 have q3 := hL8.cell 1 (v := .int .u64 (loN s')) rfl
 have hbw8 := H4.out.1.trans (hb48.mono H4.out.1.size)
 have hrl := H4.out.2.1.below hb48 (Nat.le_refl _)
 have hru := H7.out.2.1.below hb8 (Nat.le_refl _)
 by_cases hss : s = s'
 ·
  have heq : ∀ W, (Op.equalIn 10000 48 (.agg #[.int .i64 (hiS s), .int .u64 (loN s)]) (.agg #[.int .i64 (hiS s'), .int .u64 (loN s')])).run Tryz.prog W = .ok true W := fun W => by
   have := eq_w W s s'
   rw [decide_eq_true hss] at this
   exact this
  have hc := equalT_any w8 p3 p7 lt lu c3 c7 hrl hru
  have HE := Lib.hid (And.intro hc (And.intro hbw8 hss))
  clear hc hbw8 hss hrl hru hL48 hL8 hb48 hb8
  go_wp2_with fail
  refine HE.out.1.mono ?_
  rintro e w9 ⟨rfl, hb9⟩
  have HF := Lib.hid (HE.out.2.1.trans (hb9.mono HE.out.2.1.size))
  clear hb9
  go_wp2_with fail
  go_ret
  refine ⟨⟨decide (lt = lu), rfl, ?_⟩, HF.out⟩
  unfold BalOk
  rw [decide_eq_true_iff, tot_same H3.out.2.2.1 H7.out.2.2.1, ← H3.out.2.2.2, ← H7.out.2.2.2]
  exact ⟨fun h => ⟨HE.out.2.2, h⟩, fun h => h.2⟩
 ·
  have heq : ∀ W, (Op.equalIn 10000 48 (.agg #[.int .i64 (hiS s), .int .u64 (loN s)]) (.agg #[.int .i64 (hiS s'), .int .u64 (loN s')])).run Tryz.prog W = .ok false W := fun W => by
   have := eq_w W s s'
   rw [decide_eq_false hss] at this
   exact this
  have HE := Lib.hid (And.intro hbw8 hss)
  clear hbw8 hss hrl hru hL48 hL8 hb48 hb8
  go_wp2_with fail
  go_ret
  refine ⟨⟨false, rfl, ?_⟩, HE.out.1⟩
  unfold BalOk
  rw [← H3.out.2.2.2, ← H7.out.2.2.2]
  exact ⟨fun h => absurd h (by decide), fun h => absurd h.1 HE.out.2⟩
end Go.Proofs.YtjngghihciimjaaGreat
namespace Go.Proofs.YtjngghihciimjaaGreat
set_option maxRecDepth 100000
open Go.RowKit Go.Sort Go.Maps
theorem wide_toNat (x : BitVec 128) : wide (x.toNat : Int) = x := by
 unfold wide
 rw [BitVec.ofInt_natCast, BitVec.ofNat_toNat]
 simp
theorem wide_neg (n : Int) : wide (-n) = - wide n := by
 unfold wide
 exact BitVec.ofInt_neg
theorem wide_small {n : Int} (h0 : 0 ≤ n) (h1 : n < 9223372036854775808) : ((wide n).toNat : Int) = n := by
 rw [wide_nat]
 omega
theorem ctsOf_asT (coin : Int) (pa : Option Addr) (c : Nat) (tl : List To) : ctsOf ⟨coin, pa, asT tl, c⟩ = ctT tl := by
 unfold ctsOf asT ctT
 rw [List.map_map]
 apply List.map_congr_left
 intro t _
 simp [wide_toNat]
theorem TogOk.sums {x : BitVec 128} {f : Nm → BitVec 128} {coin : Int} {l : List As} (h : TogOk x f coin l) (pa : Option Addr) (c : Nat) : wide coin = x ∧ ∀ n, sumAt (ctsOf ⟨coin, pa, l, c⟩) n = f n := by
 obtain ⟨h1, rfl, tl, h2, h3, h4, rfl⟩ := h
 exact ⟨wide_toNat x, fun n => by rw [ctsOf_asT]; exact h2.sum n⟩
theorem TogOk.right {x : BitVec 128} {f : Nm → BitVec 128} {coin : Int} {l : List As} (h : TogOk x f coin l) (hn : ∀ n, f n ≠ 0 → n.2.length ≤ 32) : rightB coin l = true := by
 obtain ⟨h1, rfl, tl, h2, h3, h4, rfl⟩ := h
 refine (right_iff _ _).2 ⟨by omega, by unfold asT; rw [List.length_map]; exact h3, fun a ha => ?_, ?_⟩
 ·
  obtain ⟨t, ht, rfl⟩ := List.mem_map.1 ha
  have h5 := h2.says (t.nm, t.w) (List.mem_map.2 ⟨t, ht, rfl⟩)
  refine ⟨hn t.nm (by rw [← h5.1]; exact h5.2), ?_⟩
  show (1 : Int) ≤ (t.w.toNat : Int)
  have : t.w.toNat ≠ 0 := fun e => h5.2 (BitVec.eq_of_toNat_eq (by simpa using e))
  omega
 ·
  have h5 := h2.rise
  unfold ctT at h5
  rw [List.pairwise_map] at h5
  unfold asT
  rw [List.pairwise_map]
  exact h5
theorem TogOk.self {v : Va} (hr : rightV v = true) (ho : v.coin < 9223372036854775808 ∧ ∀ a, a ∈ v.l → a.amt < 9223372036854775808) : TogOk (wide v.coin) (sumAt (ctsOf v)) v.coin v.l := by
 obtain ⟨h0, h1, h2, h3⟩ := (right_iff _ _).1 hr
 have hct : ctT (v.l.map fun a => (⟨a.nm, wide a.amt⟩ : To)) = ctsOf v := by
  unfold ctT ctsOf
  rw [List.map_map]
  rfl
 have hrise : (ctsOf v).Pairwise fun p q => cN p.1 q.1 < 0 := by
  unfold ctsOf
  rw [List.pairwise_map]
  exact h3
 refine ⟨wide_fits _ h0 ho.1, (wide_small h0 ho.1).symm, v.l.map fun a => ⟨a.nm, wide a.amt⟩, ?_, by rw [List.length_map]; exact h1, fun t ht => ?_, ?_⟩
 ·
  rw [hct]
  refine ⟨hrise, fun p hp => ⟨(sum_rise hrise p hp).symm, ?_⟩, fun n hn => ?_⟩
  ·
   obtain ⟨a, ha, rfl⟩ := List.mem_map.1 hp
   intro e
   have h4 := wide_small (by have := (h2 a ha).2; omega) (ho.2 a ha)
   have h5 : wide a.amt = 0 := e
   rw [h5] at h4
   have := (h2 a ha).2
   simp at h4
   omega
  ·
   obtain ⟨p, hp, e⟩ := sumAt_mem hn
   have := sum_rise hrise p hp
   rw [← e, this]
   exact hp
 ·
  obtain ⟨a, ha, rfl⟩ := List.mem_map.1 ht
  exact wide_fits _ (by have := (h2 a ha).2; omega) (ho.2 a ha)
 ·
  unfold asT
  rw [List.map_map]
  symm
  have : v.l.map ((fun t : To => (⟨t.nm, (t.w.toNat : Int)⟩ : As)) ∘ fun a => ⟨a.nm, wide a.amt⟩) = v.l.map id := List.map_congr_left fun a ha => by
   show (⟨a.nm, ((wide a.amt).toNat : Int)⟩ : As) = a
   rw [wide_small (by have := (h2 a ha).2; omega) (ho.2 a ha)]
  rw [this, List.map_id]
theorem TogOk.less {x y : BitVec 128} {f g : Nm → BitVec 128} {coin : Int} {l : List As} (h : TogOk x f coin l) (hy : y.toNat ≤ x.toNat) (hg : ∀ n, (g n).toNat ≤ (f n).toNat) : ∃ c m, TogOk y g c m := by
 obtain ⟨h1, rfl, tl, h2, h3, h4, rfl⟩ := h
 have hz : ∀ n, g n ≠ 0 → f n ≠ 0 := fun n hn e => hn (BitVec.eq_of_toNat_eq (by have := hg n; rw [e] at this; simpa using this))
 have hx := fits_nat h1
 let tm := (tl.map fun t => (⟨t.nm, g t.nm⟩ : To)).filter fun t => decide (t.w ≠ 0)
 have hmem : ∀ t, t ∈ tm → ∃ u, u ∈ tl ∧ t = ⟨u.nm, g u.nm⟩ ∧ t.w ≠ 0 := fun t ht => by
  obtain ⟨h5, h6⟩ := List.mem_filter.1 ht
  obtain ⟨u, hu, rfl⟩ := List.mem_map.1 h5
  exact ⟨u, hu, rfl, of_decide_eq_true h6⟩
 refine ⟨y.toNat, asT tm, by unfold fitsW; rw [decide_eq_true_iff]; omega, rfl, tm, ⟨?_, fun p hp => ?_, fun n hn => ?_⟩, ?_, fun t ht => ?_, rfl⟩
 ·
  unfold ctT
  rw [List.pairwise_map]
  refine List.Pairwise.filter _ ?_
  rw [List.pairwise_map]
  have h5 := h2.rise
  unfold ctT at h5
  rw [List.pairwise_map] at h5
  exact h5
 ·
  obtain ⟨t, ht, rfl⟩ := List.mem_map.1 hp
  obtain ⟨u, hu, rfl, h5⟩ := hmem t ht
  exact ⟨rfl, h5⟩
 ·
  obtain ⟨u, hu, e⟩ := List.mem_map.1 (h2.all n (hz n hn))
  have e1 : u.nm = n := congrArg Prod.fst e
  refine List.mem_map.2 ⟨⟨n, g n⟩, List.mem_filter.2 ⟨List.mem_map.2 ⟨u, hu, by rw [e1]⟩, ?_⟩, rfl⟩
  exact decide_eq_true hn
 ·
  exact Nat.le_trans (List.length_filter_le _ _) (by rw [List.length_map]; exact h3)
 ·
  obtain ⟨u, hu, rfl, h5⟩ := hmem t ht
  have h6 := fits_nat (h4 u hu)
  have h7 := hg u.nm
  have h8 := h2.says (u.nm, u.w) (List.mem_map.2 ⟨u, hu, rfl⟩)
  rw [← h8.1] at h7
  unfold fitsW
  rw [decide_eq_true_iff]
  show (g u.nm).toNat < 9223372036854775808
  have h9 : (g u.nm).toNat ≤ u.w.toNat := h7
  omega
end Go.Proofs.YtjngghihciimjaaGreat
namespace Go.Proofs.YtjngghihciimjaaGreat
set_option maxRecDepth 100000
open Go.RowKit Go.Sort
attribute [-go_sem] Instr.build
def amtOf (l : List As) (n : Nm) : Int := match l.find? (fun a => decide (a.nm = n)) with | some a => a.amt | none => 0
theorem amtOf_at {l : List As} {n : Nm} {k : Nat} {a : As} (hk : l[k]? = some a) (ha : a.nm = n) (hno : ∀ (i : Nat) (b : As), i < k → l[i]? = some b → b.nm ≠ n) : amtOf l n = a.amt := by
 unfold amtOf
 have : l.find? (fun a => decide (a.nm = n)) = some a := by
  rw [List.find?_eq_some_iff_getElem]
  obtain ⟨hk', e⟩ := List.getElem?_eq_some_iff.1 hk
  refine ⟨by simp [ha], k, hk', e, fun j hj => ?_⟩
  have := hno j l[j] hj (List.getElem?_eq_getElem (by omega))
  simpa using this
 rw [this]
theorem amtOf_no {l : List As} {n : Nm} (hno : ∀ (i : Nat) (b : As), l[i]? = some b → b.nm ≠ n) : amtOf l n = 0 := by
 unfold amtOf
 have : l.find? (fun a => decide (a.nm = n)) = none := by
  rw [List.find?_eq_none]
  intro a ha
  obtain ⟨i, hi⟩ := List.getElem?_of_mem ha
  simpa using hno i a hi
 rw [this]
set_option maxHeartbeats 4000000 in
theorem of_any (w : World) (x : Int) (pa : Option Addr) (l : List As) (c : Nat) (p t : List UInt8) (h : Row w pa l) (hp : p.length = 32) (ht : t.length ≤ maxLen) :
  Calls Tryz.prog 18 #[.agg (vC x pa l.length c), .agg (B8 p), .string (txt t)] w fun e w' => e = .returned (.int .i64 (amtOf l (p, t))) ∧ Below w.heap.size w w' := by
 have hli : (l.length : Int) ≤ 9223372036854775807 := by have := h.1; unfold maxLen at this; omega
 obtain ⟨vv, hvv⟩ : ∃ v, v = vC x pa l.length c := ⟨_, rfl⟩
 obtain ⟨pv, hpv⟩ : ∃ v, v = B8 p := ⟨_, rfl⟩
 obtain ⟨tv, htv⟩ : ∃ v, v = txt t := ⟨_, rfl⟩
 obtain ⟨nv, hnv⟩ : ∃ v, v = nmC (p, t) := ⟨_, rfl⟩
 have hps : pv.size = 32 := by rw [hpv, B8_size, hp]
 have hns : nv.size = 33 := by rw [hnv]; exact nmC_size _ hp
 have hn1 : nv.all (·.oneCell') = true := by rw [hnv]; exact nmC_one _
 have hbl : ∀ W, (Instr.build 86 #[(0, .agg pv), (1, .string tv)]).run Tryz.prog W = .ok (.agg nv) W := fun W => by
  rw [hpv, htv, hnv]
  exact run_build W 86 _ _ (built_called p hp (txt t))
 rw [← hvv, ← hpv, ← htv]
 have H := Lib.hid (And.intro h (And.intro hp (And.intro ht (And.intro hvv (And.intro hpv (And.intro htv (And.intro hnv (And.intro hps (And.intro hns hn1)))))))))
 clear h hp ht hvv hpv htv hnv hps hns hn1
 go_enter Tryz.func18, Tryz.ntmps18
 go_upto_region 1 with fail
 have hL1 : Lies ((w.alloc (.cells vv 24)).alloc (.cells pv 26)) w.heap.size vv 24 := (Lies.new _ _ _).alloc _
 have hL2 : Lies ((w.alloc (.cells vv 24)).alloc (.cells pv 26)) (w.heap.size + 1) pv 26 := by
  have := Lies.new (w.alloc (.cells vv 24)) pv 26
  simpa using this
 have hb0 : Below w.heap.size w ((w.alloc (.cells vv 24)).alloc (.cells pv 26)) := ((Below.refl _ _).alloc (Nat.le_refl _) _).alloc (by simp) _
 generalize (w.alloc (.cells vv 24)).alloc (.cells pv 26) = W1 at hL1 hL2 hb0 ⊢
 have H1 := Lib.hid (And.intro hL1 (And.intro hL2 hb0))
 clear hL1 hL2 hb0
 go_upto_region 2 with (first
  | (refine wpList_load_row rfl 26 _ rfl (w.heap.size + 1) rfl 26 pv (0, 0) _ H1.out.2.1 Tryz.underlying26 rfl (by rw [H.out.2.2.2.2.2.2.2.1]; exact info_hash) ?_)
  | (refine wpList_store_row rfl 86 _ _ rfl W1.heap.size nv rfl rfl 86 z33 (Lies.new _ z33 86) (by rw [H.out.2.2.2.2.2.2.2.2.1]; exact info_called) (by rw [H.out.2.2.2.2.2.2.2.2.1]; kernel_rfl) H.out.2.2.2.2.2.2.2.2.2 ?_))
 rw [World.setRow_alloc_new]
 obtain ⟨g2, hg2⟩ : ∃ g, g = W1.heap.size := ⟨_, rfl⟩
 have hL3 : Lies (W1.alloc (.cells nv 86)) g2 nv 86 := by rw [hg2]; exact Lies.new _ _ _
 have hL4 : Lies (W1.alloc (.cells nv 86)) w.heap.size vv 24 := H1.out.1.alloc _
 have hb2 : Below w.heap.size w (W1.alloc (.cells nv 86)) := H1.out.2.2.alloc H1.out.2.2.size _
 rw [← hg2]
 generalize W1.alloc (.cells nv 86) = W2 at hL3 hL4 hb2 ⊢
 have c1 := hL4.cell 1 (v := .slice pa l.length c) (by rw [H.out.2.2.2.1]; rfl)
 have H2 := Lib.hid (And.intro hL3 hb2)
 clear hL3 hL4 hb2 hg2 H1
 go_upto_region 3 with fail
 clear c1
 go_loopw [16] (fun i W => ∃ k : Nat, k ≤ l.length ∧ i = .int .i64 k ∧ Below W2.heap.size W2 W ∧ ∀ (i : Nat) (b : As), i < k → l[i]? = some b → b.nm ≠ (p, t)) (fun i _ => l.length - (intOf i).toNat)
 case atStart => exact ⟨0, Nat.zero_le _, rfl, Below.refl _ _, fun i b hi => absurd hi (by omega)⟩
 case round =>
  obtain ⟨k, hk, rfl, hb, hall⟩ := hrel
  have hbw : Below w.heap.size w wr := H2.out.2.trans (hb.mono H2.out.2.size)
  by_cases hlt : k < l.length
  ·
   have m1 : (k : Int) < (l.length : Int) := by omega
   have m0 : (0 : Int) ≤ (k : Int) := by omega
   obtain ⟨g, off, rfl, hg, hh⟩ := H.out.1.2.2 (by omega)
   obtain ⟨a, ha⟩ : ∃ a, a = l[k] := ⟨_, rfl⟩
   have hka : l[k]? = some a := by rw [ha, List.getElem?_eq_getElem hlt]
   have oka := H.out.1.2.1 a (List.mem_of_getElem? hka)
   have hrg := (hh.below hbw hg) k a hka
   obtain ⟨va, hva⟩ : ∃ v, v = asC a := ⟨_, rfl⟩
   obtain ⟨na, hna⟩ : ∃ v, v = nmC a.nm := ⟨_, rfl⟩
   have hvs : va.size = 34 := by rw [hva]; exact asC_size a oka.1
   have hv1 : va.all (·.oneCell') = true := by rw [hva]; exact asC_one a
   have h33 : va[33]? = some (.int .i64 a.amt) := by rw [hva]; exact asC_amt a oka.1
   rw [← hva] at hrg
   have heq : ∀ W, (Op.equalIn 10000 86 (.agg na) (.agg nv)).run Tryz.prog W = .ok (decide (a.nm = (p, t))) W := fun W => by
    rw [hna, H.out.2.2.2.2.2.2.1]
    exact eq_nm W a.nm (p, t) oka.1 H.out.2.1 oka.2.1 H.out.2.2.1
   have hcall : ∀ W, Calls Tryz.prog 59 #[.agg va] W fun e w' => e = .returned (.agg na) ∧ Below W.heap.size W w' := fun W => by
    rw [hva, hna]; exact callAsset_any W a oka.1
   have HI := Lib.hid (And.intro (show (Tryz.prog.info? 38).map (·.size) = some va.size by rw [hvs]; exact info_asset) (And.intro (show (Tryz.prog.info? 86).map (·.size) = some nv.size by rw [H.out.2.2.2.2.2.2.2.2.1]; exact info_called) hcall))
   have HR := Lib.hid (And.intro hb (And.intro hall (And.intro hlt (And.intro hka (And.intro hvs (And.intro hv1 h33))))))
   have HRG := Lib.hid hrg
   clear hb hall hlt hk ha hka oka hva hna hvs hv1 h33 hh hg hrg hcall
   go_upto_region 5 with (first
    | (refine wpList_load_mid rfl 38 _ rfl g (off + k * 34) rfl va.toList _ HRG.out Tryz.underlying38 rfl (by rw [Array.length_toList]; exact HI.out.1) ?_)
    | (refine wpList_store_row rfl 38 _ _ rfl wr.heap.size va rfl rfl 38 z34 (Lies.new wr z34 38) HI.out.1 (by rw [HR.out.2.2.2.2.1]; kernel_rfl) HR.out.2.2.2.2.2.1 ?_))
   rw [World.setRow_alloc_new]
   have hL5 : Lies (wr.alloc (.cells va 38)) wr.heap.size va 38 := Lies.new _ _ _
   have hL6 : Lies (wr.alloc (.cells va 38)) g2 nv 86 := (H2.out.1.below HR.out.1 H2.out.1.lt).alloc _
   have hb3 : Below W2.heap.size W2 (wr.alloc (.cells va 38)) := HR.out.1.alloc HR.out.1.size _
   generalize wr.alloc (.cells va 38) = W3 at hL5 hL6 hb3 ⊢
   have HS5 : Hid (∀ V, Below W3.heap.size W3 V → Lies V wr.heap.size va 38 ∧ Lies V g2 nv 86) := Lib.hid fun V hV => ⟨hL5.below hV hL5.lt, hL6.below hV hL6.lt⟩
   have H3 := Lib.hid hb3
   clear hL5 hL6 hb3
   refine wp_region_noPanic (wp_region_held (S := fun V => Lies V wr.heap.size va 38 ∧ Lies V g2 nv 86) (by kernel_rfl) ?_)
   change wpAnyH _ _ _ _ _ 4 _ _ (World.drew W3)
   have hbd : Below W3.heap.size W3 W3.drew := (Below.refl _ _).drew
   have hcur := HS5.out _ hbd
   by_cases hnm : a.nm = (p, t)
   ·
    have hd : decide (a.nm = (p, t)) = true := by simp [hnm]
    have HV := Lib.hid (amtOf_at HR.out.2.2.2.1 hnm HR.out.2.1)
    clear hnm
    refine tk 0 (.agg va) 20 rfl rfl hcur ?_ (by intro w' hS'; exact exec_loadM 38 _ rfl _ _ rfl va (range_lies hS'.1) Tryz.underlying38 rfl HI.out.1)
    refine tk 2 (.agg nv) 22 rfl rfl hcur ?_ (by intro w' hS'; exact exec_loadM 86 _ rfl _ _ rfl nv (range_lies hS'.2) Tryz.underlying86 rfl HI.out.2.1)
    refine held_one (i := 1) (by kernel_rfl) _ rfl (wpOp_callG rfl (by rfl) 21 rfl 59 #[.agg va] (by unfold execOp; simp [go_sem]) _ (ret_of (HI.out.2.2 _)) ?_)
    rintro v1 w5 ⟨rfl, hb5⟩
    have hb5w := hbd.trans (hb5.mono hbd.size)
    have hcur := HS5.out _ hb5w
    refine ⟨hcur, ?_⟩
    simp only [Act.put, List.setIfInBounds_toArray, List.set_cons_zero, List.set_cons_succ]
    refine tk 3 (.bool true) 23 rfl rfl hcur ?_ (by intro w' hS'; unfold execOp; simp [go_sem, heq, hd])
    refine wpAnyH_done (by kernel_rfl) ?_ _
    unfold NoPanic
    dsimp only
    have HB5 := Lib.hid hb5w
    clear hcur heq hd hb5 hb5w hbd
    have c33 := (HS5.out _ HB5.out).1.cell 33 HR.out.2.2.2.2.2.2
    go_wp2_with fail
    go_ret
    refine ⟨?_, H2.out.2.trans ((H3.out.trans (HB5.out.mono H3.out.size)).mono H2.out.2.size)⟩
    rw [HV.out]
    rfl
   ·
    have hd : decide (a.nm = (p, t)) = false := by simp [hnm]
    have HV := Lib.hid (show ∀ (i : Nat) (b : As), i < k + 1 → l[i]? = some b → b.nm ≠ (p, t) from fun i b hi hb => by
     by_cases e : i = k
     ·
      subst e
      have h1 := HR.out.2.2.2.1
      rw [hb] at h1
      rw [Option.some.inj h1]
      exact hnm
     ·
      exact HR.out.2.1 i b (by omega) hb)
    clear hnm
    refine tk 0 (.agg va) 20 rfl rfl hcur ?_ (by intro w' hS'; exact exec_loadM 38 _ rfl _ _ rfl va (range_lies hS'.1) Tryz.underlying38 rfl HI.out.1)
    refine tk 2 (.agg nv) 22 rfl rfl hcur ?_ (by intro w' hS'; exact exec_loadM 86 _ rfl _ _ rfl nv (range_lies hS'.2) Tryz.underlying86 rfl HI.out.2.1)
    refine held_one (i := 1) (by kernel_rfl) _ rfl (wpOp_callG rfl (by rfl) 21 rfl 59 #[.agg va] (by unfold execOp; simp [go_sem]) _ (ret_of (HI.out.2.2 _)) ?_)
    rintro v1 w5 ⟨rfl, hb5⟩
    have hb5w := hbd.trans (hb5.mono hbd.size)
    have hcur := HS5.out _ hb5w
    refine ⟨hcur, ?_⟩
    simp only [Act.put, List.setIfInBounds_toArray, List.set_cons_zero, List.set_cons_succ]
    refine tk 3 (.bool false) 23 rfl rfl hcur ?_ (by intro w' hS'; unfold execOp; simp [go_sem, heq, hd])
    refine wpAnyH_done (by kernel_rfl) ?_ _
    unfold NoPanic
    dsimp only
    have HB5 := Lib.hid hb5w
    clear hcur heq hd hb5 hb5w hbd
    go_wp2_with fail
    have e1 : (k : Int) + 1 = ((k + 1 : Nat) : Int) := by omega
    rw [e1]
    refine ⟨⟨k + 1, HR.out.2.2.1, rfl, H3.out.trans (HB5.out.mono H3.out.size), HV.out⟩, ?_⟩
    have h := HR.out.2.2.1
    show l.length - (k + 1) < l.length - k
    omega
  ·
   have HF := Lib.hid (And.intro hbw (amtOf_no (n := (p, t)) (fun i b hi => hall i b (by have := (List.getElem?_eq_some_iff.1 hi).1; omega) hi)))
   have m1 : ¬ (k : Int) < (l.length : Int) := by omega
   clear hb hall hk hlt hbw
   go_wp2_with fail
   go_ret
   refine ⟨?_, HF.out.1⟩
   rw [HF.out.2]
   rfl
end Go.Proofs.YtjngghihciimjaaGreat
namespace Go.Proofs.YtjngghihciimjaaGreat
set_option maxRecDepth 100000
open Go.RowKit Go.Sort Go.Maps
structure Good (v : Va) : Prop where
 right : rightV v = true
 coin : v.coin < 9223372036854775808
 amts : ∀ a, a ∈ v.l → a.amt < 9223372036854775808
theorem VaOk.good {w : World} {v : Va} (h : VaOk w v) (hr : rightV v = true) : Good v := ⟨hr, h.2.1, fun a ha => (h.2.2.2.1 a ha).2.2.2⟩
theorem TogOk.fit {x : BitVec 128} {f : Nm → BitVec 128} {coin : Int} {l : List As} (h : TogOk x f coin l) (n : Nm) : (f n).toNat < 9223372036854775808 := by
 obtain ⟨h1, rfl, tl, h2, h3, h4, rfl⟩ := h
 by_cases hn : f n = 0
 ·
  rw [hn]; decide
 ·
  obtain ⟨t, ht, e⟩ := List.mem_map.1 (h2.all n hn)
  have e2 : t.w = f n := congrArg Prod.snd e
  rw [← e2]
  exact fits_nat (h4 t ht)
def Cw (v : Va) : BitVec 128 := wide v.coin
def Fw (v : Va) (n : Nm) : BitVec 128 := sumAt (ctsOf v) n
theorem Good.self {v : Va} (h : Good v) : TogOk (Cw v) (Fw v) v.coin v.l := TogOk.self h.right ⟨h.coin, h.amts⟩
theorem Good.fit {v : Va} (h : Good v) (n : Nm) : (Fw v n).toNat < 9223372036854775808 := h.self.fit n
theorem Good.fitC {v : Va} (h : Good v) : (Cw v).toNat < 9223372036854775808 := fits_nat h.self.1
theorem coin2 (a b : Va) : coinS [a, b] = Cw a + Cw b := by simp [coinS, sumL, Cw]
theorem coin3 (a b c : Va) : coinS [a, b, c] = Cw a + Cw b + Cw c := by simp [coinS, sumL, Cw]
theorem sum2 (a b : Va) : sumAt (ctsL [a, b]) = fun n => Fw a n + Fw b n := by
 funext n
 have e : ctsL [a, b] = ctsOf a ++ ctsOf b := by simp [ctsL]
 rw [e, sumAt_append]
 rfl
theorem sum3 (a b c : Va) : sumAt (ctsL [a, b, c]) = fun n => Fw a n + Fw b n + Fw c n := by
 funext n
 have e : ctsL [a, b, c] = ctsOf a ++ ctsOf b ++ ctsOf c := by simp [ctsL]
 rw [e, sumAt_append, sumAt_append]
 rfl
theorem sumAt_turn (l : List As) (pa : Option Addr) (c : Nat) (x : Int) (n : Nm) : sumAt (ctsOf ⟨x, pa, turnL l, c⟩) n = - sumAt (ctsOf ⟨x, pa, l, c⟩) n := by
  induction l with
  | nil => simp [ctsOf, turnL, sumAt]
  | cons a l ih =>
    have e1 : ctsOf ⟨x, pa, turnL (a :: l), c⟩ = (a.nm, wide (-a.amt)) :: ctsOf ⟨x, pa, turnL l, c⟩ := rfl
    have e2 : ctsOf ⟨x, pa, a :: l, c⟩ = (a.nm, wide a.amt) :: ctsOf ⟨x, pa, l, c⟩ := rfl
    rw [e1, e2]
    simp only [sumAt, ih, wide_neg]
    by_cases h : a.nm = n
    · simp [h, BitVec.neg_add]
      exact (BitVec.sub_eq_add_neg _ _).symm
    · simp [h]
theorem turnF (v : Va) (n : Nm) : Fw (turnV v) n = - Fw v n := sumAt_turn v.l none 0 (-v.coin) n
theorem turnC (v : Va) : Cw (turnV v) = - Cw v := wide_neg v.coin
theorem add2 {x y : BitVec 128} (hx : x.toNat < 9223372036854775808) (hy : y.toNat < 9223372036854775808) : (x + y).toNat = x.toNat + y.toNat := by
 rw [BitVec.toNat_add]
 omega
theorem add3 {x y z : BitVec 128} (hx : x.toNat < 9223372036854775808) (hy : y.toNat < 9223372036854775808) (hz : z.toNat < 9223372036854775808) : (x + y + z).toNat = x.toNat + y.toNat + z.toNat := by
 rw [BitVec.toNat_add, BitVec.toNat_add]
 omega
theorem right_names {v : Va} (h : Good v) {n : Nm} (hn : Fw v n ≠ 0) : n.2.length ≤ 32 := by
 obtain ⟨p, hp, rfl⟩ := sumAt_mem hn
 obtain ⟨a, ha, rfl⟩ := List.mem_map.1 hp
 exact (((right_iff _ _).1 h.right).2.2.1 a ha).1
theorem names3 {a b c : Va} (ha : Good a) (hb : Good b) (hc : Good c) {n : Nm} (hn : Fw a n + Fw b n + Fw c n ≠ 0) : n.2.length ≤ 32 := by
 by_cases h1 : Fw a n = 0
 ·
  by_cases h2 : Fw b n = 0
  ·
   by_cases h3 : Fw c n = 0
   ·
    rw [h1, h2, h3] at hn; exact absurd rfl hn
   ·
    exact right_names hc h3
  ·
   exact right_names hb h2
 ·
  exact right_names ha h1
theorem addZ2 {a b : Va} {coin : Int} {l : List As} : AddZ [a, b] coin l ↔ (rightV a = true ∧ rightV b = true) ∧ TogOk (Cw a + Cw b) (fun n => Fw a n + Fw b n) coin l := by
 unfold AddZ
 rw [coin2, sum2]
 simp
theorem addZ3 {a b c : Va} {coin : Int} {l : List As} : AddZ [a, b, c] coin l ↔ (rightV a = true ∧ rightV b = true ∧ rightV c = true) ∧ TogOk (Cw a + Cw b + Cw c) (fun n => Fw a n + Fw b n + Fw c n) coin l := by
 unfold AddZ
 rw [coin3, sum3]
 simp
theorem subZ {a b : Va} {coin : Int} {l : List As} : SubZ a b coin l ↔ (rightV a = true ∧ rightV b = true) ∧ TogOk (Cw a - Cw b) (fun n => Fw a n - Fw b n) coin l := by
 unfold SubZ
 rw [coin2, sum2, turnC]
 have e : (fun n => Fw a n + Fw (turnV b) n) = fun n => Fw a n - Fw b n := by
  funext n
  rw [turnF, ← BitVec.sub_eq_add_neg]
 rw [e, ← BitVec.sub_eq_add_neg]
structure Three (a b c : Va) (S : Va) : Prop where
 ga : Good a
 gb : Good b
 gc : Good c
 is : AddZ [a, b, c] S.coin S.l
theorem Three.sums {a b c S : Va} (h : Three a b c S) : Cw S = Cw a + Cw b + Cw c ∧ ∀ n, Fw S n = Fw a n + Fw b n + Fw c n := (addZ3.1 h.is).2.sums S.pa S.c
theorem Three.right {a b c S : Va} (h : Three a b c S) : rightV S = true := (addZ3.1 h.is).2.right fun _ hn => names3 h.ga h.gb h.gc hn
theorem Three.two {a b c S : Va} (h : Three a b c S) : ∃ coin l, AddZ [a, b] coin l := by
 obtain ⟨coin, l, h1⟩ := (addZ3.1 h.is).2.less (y := Cw a + Cw b) (g := fun n => Fw a n + Fw b n) (by rw [add3 h.ga.fitC h.gb.fitC h.gc.fitC, add2 h.ga.fitC h.gb.fitC]; omega) (fun n => by rw [add3 (h.ga.fit n) (h.gb.fit n) (h.gc.fit n), add2 (h.ga.fit n) (h.gb.fit n)]; omega)
 exact ⟨coin, l, addZ2.2 ⟨⟨h.ga.right, h.gb.right⟩, h1⟩⟩
theorem two_sums {a b T : Va} (h : AddZ [a, b] T.coin T.l) : Cw T = Cw a + Cw b ∧ ∀ n, Fw T n = Fw a n + Fw b n := (addZ2.1 h).2.sums T.pa T.c
theorem Three.again {a b c S T : Va} (h : Three a b c S) (ht : AddZ [a, b] T.coin T.l) : AddZ [T, c] S.coin S.l := by
 obtain ⟨e1, e2⟩ := two_sums ht
 rw [addZ2, e1]
 refine ⟨⟨(addZ2.1 ht).2.right fun n hn => ?_, h.gc.right⟩, ?_⟩
 ·
  by_cases h1 : Fw a n = 0
  ·
   by_cases h2 : Fw b n = 0
   ·
    rw [h1, h2] at hn; exact absurd rfl hn
   ·
    exact right_names h.gb h2
  ·
   exact right_names h.ga h1
 ·
  have e : (fun n => Fw T n + Fw c n) = fun n => Fw a n + Fw b n + Fw c n := funext fun n => by rw [e2 n]
  rw [e]
  exact (addZ3.1 h.is).2
theorem Three.left {a b c S : Va} (h : Three a b c S) {coin : Int} {l : List As} (ht : AddZ [a, b] coin l) : SubZ S c coin l := by
 obtain ⟨e1, e2⟩ := h.sums
 rw [subZ, e1]
 refine ⟨⟨h.right, h.gc.right⟩, ?_⟩
 have e3 : (fun n => Fw S n - Fw c n) = fun n => Fw a n + Fw b n := funext fun n => by rw [e2 n, BitVec.add_sub_cancel]
 rw [e3, BitVec.add_sub_cancel]
 exact (addZ2.1 ht).2
theorem Good.of {v : Va} (h : Good v) (n : Nm) : amtOf v.l n = ((Fw v n).toNat : Int) := by
  obtain ⟨h0, h1, h2, h3⟩ := (right_iff _ _).1 h.right
  have hrise : (ctsOf v).Pairwise fun p q => cN p.1 q.1 < 0 := by
    unfold ctsOf
    rw [List.pairwise_map]
    exact h3
  unfold amtOf
  cases hf : v.l.find? fun a => decide (a.nm = n) with
  | some a =>
    have ha := List.mem_of_find?_eq_some hf
    have hn : a.nm = n := of_decide_eq_true (List.find?_some (p := fun a : As => decide (a.nm = n)) hf)
    have h4 := sum_rise hrise (a.nm, wide a.amt) (List.mem_map.2 ⟨a, ha, rfl⟩)
    show a.amt = ((Fw v n).toNat : Int)
    unfold Fw
    rw [← hn, h4]
    exact (wide_small (by have := (h2 a ha).2; omega) (h.amts a ha)).symm
  | none =>
    have h4 : Fw v n = 0 := by
      by_cases h5 : Fw v n = 0
      · exact h5
      · obtain ⟨p, hp, e⟩ := sumAt_mem h5
        obtain ⟨a, ha, rfl⟩ := List.mem_map.1 hp
        have := List.find?_eq_none.1 hf a ha
        exact absurd (decide_eq_true e) this
    rw [h4]
    rfl
theorem Three.good {a b c S : Va} (h : Three a b c S) : Good S := by
 obtain ⟨h1, h2, tl, h3, h4, h5, h6⟩ := (addZ3.1 h.is).2
 refine ⟨h.right, by rw [h2]; have := fits_nat h1; omega, fun x hx => ?_⟩
 rw [h6] at hx
 obtain ⟨t, ht, rfl⟩ := List.mem_map.1 hx
 have := fits_nat (h5 t ht)
 show (t.w.toNat : Int) < 9223372036854775808
 omega
theorem Three.of {a b c S : Va} (h : Three a b c S) (n : Nm) : amtOf S.l n = amtOf a.l n + amtOf b.l n + amtOf c.l n ∧ 0 ≤ amtOf a.l n ∧ 0 ≤ amtOf b.l n ∧ 0 ≤ amtOf c.l n ∧ amtOf S.l n < 9223372036854775808 := by
 rw [h.good.of, h.ga.of, h.gb.of, h.gc.of, h.sums.2 n, add3 (h.ga.fit n) (h.gb.fit n) (h.gc.fit n)]
 have h1 := (addZ3.1 h.is).2.fit n
 rw [add3 (h.ga.fit n) (h.gb.fit n) (h.gc.fit n)] at h1
 omega
theorem Good.coinN {v : Va} (h : Good v) : v.coin = ((Cw v).toNat : Int) := h.self.2.1
theorem Three.coins {a b c S : Va} (h : Three a b c S) : S.coin = a.coin + b.coin + c.coin ∧ 0 ≤ a.coin ∧ 0 ≤ b.coin ∧ 0 ≤ c.coin ∧ S.coin < 9223372036854775808 := by
 have h1 := h.good.coin
 rw [h.good.coinN, h.sums.1, add3 h.ga.fitC h.gb.fitC h.gc.fitC] at h1 ⊢
 rw [h.ga.coinN, h.gb.coinN, h.gc.coinN]
 omega
end Go.Proofs.YtjngghihciimjaaGreat
