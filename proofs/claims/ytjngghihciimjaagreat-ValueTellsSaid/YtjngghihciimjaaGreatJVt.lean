/-
  Are two rows of assets the same? Are two bundles?
  A number as one of 128 bits, and back.
  The sum of numbers of 128 bits.
  A total as it lies in memory; what it is called; which of two stands ahead; are two the same?
-/
import Derived.Test.YtjngghihciimjaaGreatJVe
import Derived.Test.YtjngghihciimjaaGreatJVr
import Derived.Laws.Externs
namespace Go.Proofs.YtjngghihciimjaaGreat
set_option maxRecDepth 100000
open Go.RowKit Go.Sort

theorem Row.at {w : World} {g off : Nat} {l : List As} {i : Nat} {a : As} (h : HasA w g off l) (ha : l[i]? = some a) : w.rangeAt g (off + i * 34) (asC a).toList := h i a ha
set_option maxHeartbeats 4000000 in
theorem same_any (w : World) (pa pb : Option Addr) (l m : List As) (c e : Nat) (hl : Row w pa l) (hm : Row w pb m) :
    Calls Tryz.prog 56 #[.slice pa l.length c, .slice pb m.length e] w fun e w' => e = .returned (.bool (decide (l = m))) ∧ Below w.heap.size w w' := by
  have hli : (l.length : Int) ≤ 9223372036854775807 := by have := hl.1; unfold maxLen at this; omega
  have hmi : (m.length : Int) ≤ 9223372036854775807 := by have := hm.1; unfold maxLen at this; omega
  have HS := Lib.hid (And.intro hl hm)
  clear hl hm
  by_cases hlen : l.length = m.length
  · rw [hlen]
    have HL := Lib.hid hlen
    clear hlen
    go_enter Tryz.func56, Tryz.ntmps56
    go_wp2_with fail
    go_loopw [5] (fun i W => ∃ k : Nat, k ≤ m.length ∧ i = .int .i64 k ∧ Below w.heap.size w W ∧ ∀ i, i < k → l[i]? = m[i]?) (fun i _ => m.length - (intOf i).toNat)
    case atStart => exact ⟨0, Nat.zero_le _, rfl, Below.refl _ _, fun i hi => absurd hi (by omega)⟩
    case round =>
      obtain ⟨k, hk, rfl, hb, hall⟩ := hrel
      have hlen := HL.out
      by_cases hlt : k < m.length
      · have m1 : (k : Int) < (m.length : Int) := by omega
        have m0 : (0 : Int) ≤ (k : Int) := by omega
        obtain ⟨g, off, rfl, hg, hh⟩ := HS.out.1.2.2 (by omega)
        obtain ⟨g', off', rfl, hg', hh'⟩ := HS.out.2.2.2 (by omega)
        obtain ⟨a, ha⟩ : ∃ a, a = l[k] := ⟨_, rfl⟩
        obtain ⟨b, hb'⟩ : ∃ b, b = m[k] := ⟨_, rfl⟩
        have hka : l[k]? = some a := by rw [ha, List.getElem?_eq_getElem (by omega)]
        have hkb : m[k]? = some b := by rw [hb', List.getElem?_eq_getElem hlt]
        have oka := HS.out.1.2.1 a (List.mem_of_getElem? hka)
        have okb := HS.out.2.2.1 b (List.mem_of_getElem? hkb)
        obtain ⟨va, hva⟩ : ∃ v, v = asC a := ⟨_, rfl⟩
        obtain ⟨vb, hvb⟩ : ∃ v, v = asC b := ⟨_, rfl⟩
        have hvs : va.size = 34 := by rw [hva]; exact asC_size a oka.1
        have hvt : vb.size = 34 := by rw [hvb]; exact asC_size b okb.1
        have heq : ∀ W, (Op.equalIn 10000 38 (.agg va) (.agg vb)).run Tryz.prog W = .ok (decide (a = b)) W := fun W => by rw [hva, hvb]; exact eq_as W a b oka okb
        have HR1 : Hid (∀ W, Below w.heap.size w W → W.rangeAt g (off + k * 34) va.toList ∧ W.rangeAt g' (off' + k * 34) vb.toList) := Lib.hid fun W hW => by
          rw [hva, hvb]
          exact ⟨(hh.below hW hg) k a hka, (hh'.below hW hg') k b hkb⟩
        have HR := Lib.hid (And.intro hb (And.intro hall (And.intro hlt (And.intro hka (And.intro hkb (And.intro hvs hvt))))))
        have HI := Lib.hid (And.intro (show (Tryz.prog.info? 38).map (·.size) = some va.size by rw [hvs]; exact info_asset) (show (Tryz.prog.info? 38).map (·.size) = some vb.size by rw [hvt]; exact info_asset))
        clear hlen hb hall hlt hk ha hb' hka hkb oka okb hva hvb hvs hvt hh hh' hg hg'
        go_upto_region 6 with fail
        refine wp_region_noPanic (wp_region_held (S := fun V => V.rangeAt g (off + k * 34) va.toList ∧ V.rangeAt g' (off' + k * 34) vb.toList) (by kernel_rfl) ?_)
        change wpAnyH _ _ _ _ _ 9 _ _ (World.drew wr)
        have hcur := HR1.out _ HR.out.1.drew
        have hbd : Below w.heap.size w wr.drew := HR.out.1.drew
        have HBD := Lib.hid hbd
        clear hbd
        by_cases hab : a = b
        · have hd : decide (a = b) = true := by simp [hab]
          have HAB := Lib.hid hab
          clear hab
          refine held_take (i := 0) (v := (.slice (some ⟨g, off, none⟩) m.length c)) rfl 17 rfl (by kernel_rfl) (by kernel_rfl) (by kernel_rfl) (fun _ _ _ h => h) (by rfl) (by intro w' hS'; unfold execOp; simp [go_sem]) hcur _ rfl ?_
          simp only [Act.put, List.setIfInBounds_toArray, List.set_cons_zero, List.set_cons_succ]
          refine held_take (i := 1) (v := (.int .i64 k)) rfl 18 rfl (by kernel_rfl) (by kernel_rfl) (by kernel_rfl) (fun _ _ _ h => h) (by rfl) (by intro w' hS'; unfold execOp; simp [go_sem]) hcur _ rfl ?_
          simp only [Act.put, List.setIfInBounds_toArray, List.set_cons_zero, List.set_cons_succ]
          refine held_take (i := 2) (v := (.pointer (some ⟨g, off + k * 34, none⟩))) rfl 19 rfl (by kernel_rfl) (by kernel_rfl) (by kernel_rfl) (fun _ _ _ h => h) (by rfl) (by intro w' hS'; unfold execOp; simp [go_sem, m0, m1]) hcur _ rfl ?_
          simp only [Act.put, List.setIfInBounds_toArray, List.set_cons_zero, List.set_cons_succ]
          refine held_take (i := 3) (v := (.agg va)) rfl 20 rfl (by kernel_rfl) (by kernel_rfl) (by kernel_rfl) (fun _ _ _ h => h) (by rfl) (by intro w' hS'; exact exec_loadM 38 _ rfl _ _ rfl va hS'.1 Tryz.underlying38 rfl HI.out.1) hcur _ rfl ?_
          simp only [Act.put, List.setIfInBounds_toArray, List.set_cons_zero, List.set_cons_succ]
          refine held_take (i := 4) (v := (.slice (some ⟨g', off', none⟩) m.length e)) rfl 21 rfl (by kernel_rfl) (by kernel_rfl) (by kernel_rfl) (fun _ _ _ h => h) (by rfl) (by intro w' hS'; unfold execOp; simp [go_sem]) hcur _ rfl ?_
          simp only [Act.put, List.setIfInBounds_toArray, List.set_cons_zero, List.set_cons_succ]
          refine held_take (i := 5) (v := (.int .i64 k)) rfl 22 rfl (by kernel_rfl) (by kernel_rfl) (by kernel_rfl) (fun _ _ _ h => h) (by rfl) (by intro w' hS'; unfold execOp; simp [go_sem]) hcur _ rfl ?_
          simp only [Act.put, List.setIfInBounds_toArray, List.set_cons_zero, List.set_cons_succ]
          refine held_take (i := 6) (v := (.pointer (some ⟨g', off' + k * 34, none⟩))) rfl 23 rfl (by kernel_rfl) (by kernel_rfl) (by kernel_rfl) (fun _ _ _ h => h) (by rfl) (by intro w' hS'; unfold execOp; simp [go_sem, m0, m1]) hcur _ rfl ?_
          simp only [Act.put, List.setIfInBounds_toArray, List.set_cons_zero, List.set_cons_succ]
          refine held_take (i := 7) (v := (.agg vb)) rfl 24 rfl (by kernel_rfl) (by kernel_rfl) (by kernel_rfl) (fun _ _ _ h => h) (by rfl) (by intro w' hS'; exact exec_loadM 38 _ rfl _ _ rfl vb hS'.2 Tryz.underlying38 rfl HI.out.2) hcur _ rfl ?_
          simp only [Act.put, List.setIfInBounds_toArray, List.set_cons_zero, List.set_cons_succ]
          refine held_take (i := 8) (v := (.bool false)) rfl 25 rfl (by kernel_rfl) (by kernel_rfl) (by kernel_rfl) (fun _ _ _ h => h) (by rfl) (by intro w' hS'; unfold execOp; simp [go_sem, heq, hd]) hcur _ rfl ?_
          simp only [Act.put, List.setIfInBounds_toArray, List.set_cons_zero, List.set_cons_succ]
          refine wpAnyH_done (by kernel_rfl) ?_ _
          unfold NoPanic
          dsimp only
          clear hcur heq hd
          go_wp2_with fail
          have e1 : (k : Int) + 1 = ((k + 1 : Nat) : Int) := by omega
          rw [e1]
          refine ⟨⟨k + 1, HR.out.2.2.1, rfl, HBD.out, fun i hi => ?_⟩, ?_⟩
          · by_cases e : i = k
            · rw [e, HR.out.2.2.2.1, HR.out.2.2.2.2.1, HAB.out]
            · exact HR.out.2.1 i (by omega)
          · have h := HR.out.2.2.1
            show m.length - (k + 1) < m.length - k
            omega
        · have hd : decide (a = b) = false := by simp [hab]
          have HAB := Lib.hid (show l ≠ m from fun e => hab (by
            have h1 := HR.out.2.2.2.1
            rw [e, HR.out.2.2.2.2.1] at h1
            exact (Option.some.inj h1).symm))
          clear hab
          refine held_take (i := 0) (v := (.slice (some ⟨g, off, none⟩) m.length c)) rfl 17 rfl (by kernel_rfl) (by kernel_rfl) (by kernel_rfl) (fun _ _ _ h => h) (by rfl) (by intro w' hS'; unfold execOp; simp [go_sem]) hcur _ rfl ?_
          simp only [Act.put, List.setIfInBounds_toArray, List.set_cons_zero, List.set_cons_succ]
          refine held_take (i := 1) (v := (.int .i64 k)) rfl 18 rfl (by kernel_rfl) (by kernel_rfl) (by kernel_rfl) (fun _ _ _ h => h) (by rfl) (by intro w' hS'; unfold execOp; simp [go_sem]) hcur _ rfl ?_
          simp only [Act.put, List.setIfInBounds_toArray, List.set_cons_zero, List.set_cons_succ]
          refine held_take (i := 2) (v := (.pointer (some ⟨g, off + k * 34, none⟩))) rfl 19 rfl (by kernel_rfl) (by kernel_rfl) (by kernel_rfl) (fun _ _ _ h => h) (by rfl) (by intro w' hS'; unfold execOp; simp [go_sem, m0, m1]) hcur _ rfl ?_
          simp only [Act.put, List.setIfInBounds_toArray, List.set_cons_zero, List.set_cons_succ]
          refine held_take (i := 3) (v := (.agg va)) rfl 20 rfl (by kernel_rfl) (by kernel_rfl) (by kernel_rfl) (fun _ _ _ h => h) (by rfl) (by intro w' hS'; exact exec_loadM 38 _ rfl _ _ rfl va hS'.1 Tryz.underlying38 rfl HI.out.1) hcur _ rfl ?_
          simp only [Act.put, List.setIfInBounds_toArray, List.set_cons_zero, List.set_cons_succ]
          refine held_take (i := 4) (v := (.slice (some ⟨g', off', none⟩) m.length e)) rfl 21 rfl (by kernel_rfl) (by kernel_rfl) (by kernel_rfl) (fun _ _ _ h => h) (by rfl) (by intro w' hS'; unfold execOp; simp [go_sem]) hcur _ rfl ?_
          simp only [Act.put, List.setIfInBounds_toArray, List.set_cons_zero, List.set_cons_succ]
          refine held_take (i := 5) (v := (.int .i64 k)) rfl 22 rfl (by kernel_rfl) (by kernel_rfl) (by kernel_rfl) (fun _ _ _ h => h) (by rfl) (by intro w' hS'; unfold execOp; simp [go_sem]) hcur _ rfl ?_
          simp only [Act.put, List.setIfInBounds_toArray, List.set_cons_zero, List.set_cons_succ]
          refine held_take (i := 6) (v := (.pointer (some ⟨g', off' + k * 34, none⟩))) rfl 23 rfl (by kernel_rfl) (by kernel_rfl) (by kernel_rfl) (fun _ _ _ h => h) (by rfl) (by intro w' hS'; unfold execOp; simp [go_sem, m0, m1]) hcur _ rfl ?_
          simp only [Act.put, List.setIfInBounds_toArray, List.set_cons_zero, List.set_cons_succ]
          refine held_take (i := 7) (v := (.agg vb)) rfl 24 rfl (by kernel_rfl) (by kernel_rfl) (by kernel_rfl) (fun _ _ _ h => h) (by rfl) (by intro w' hS'; exact exec_loadM 38 _ rfl _ _ rfl vb hS'.2 Tryz.underlying38 rfl HI.out.2) hcur _ rfl ?_
          simp only [Act.put, List.setIfInBounds_toArray, List.set_cons_zero, List.set_cons_succ]
          refine held_take (i := 8) (v := (.bool true)) rfl 25 rfl (by kernel_rfl) (by kernel_rfl) (by kernel_rfl) (fun _ _ _ h => h) (by rfl) (by intro w' hS'; unfold execOp; simp [go_sem, heq, hd]) hcur _ rfl ?_
          simp only [Act.put, List.setIfInBounds_toArray, List.set_cons_zero, List.set_cons_succ]
          refine wpAnyH_done (by kernel_rfl) ?_ _
          unfold NoPanic
          dsimp only
          clear hcur heq hd
          go_wp2_with fail
          go_ret
          refine ⟨?_, HBD.out⟩
          rw [decide_eq_false HAB.out]
          rfl
      · have e1 : k = m.length := by omega
        have HF := Lib.hid (And.intro hb (show l = m from List.ext_getElem? fun i => by
          by_cases hi : i < k
          · exact hall i hi
          · rw [List.getElem?_eq_none (by omega), List.getElem?_eq_none (by omega)]))
        have m1 : ¬ (k : Int) < (m.length : Int) := by omega
        clear hb hall e1 hk hlt hlen
        go_wp2_with fail
        go_ret
        refine ⟨?_, HF.out.1⟩
        rw [decide_eq_true HF.out.2]
        rfl
  · have hne : ¬ (l.length : Int) = (m.length : Int) := by omega
    have HN := Lib.hid (show l ≠ m from fun e => hlen (by rw [e]))
    clear hlen
    go_enter Tryz.func56, Tryz.ntmps56
    go_wp2_with fail
    go_ret
    refine ⟨?_, Below.refl _ _⟩
    rw [decide_eq_false HN.out]
    rfl
def sameB (x y : Int) (l m : List As) : Bool := decide (x = y) && decide (l = m)
set_option maxHeartbeats 1000000 in
theorem sameV_any (w : World) (x y : Int) (pa pb : Option Addr) (l m : List As) (c e : Nat) (hl : Row w pa l) (hm : Row w pb m) :
    Calls Tryz.prog 12 #[.agg (vC x pa l.length c), .agg (vC y pb m.length e)] w fun e w' => e = .returned (.bool (sameB x y l m)) ∧ Below w.heap.size w w' := by
  have hli : (l.length : Int) ≤ 9223372036854775807 := by have := hl.1; unfold maxLen at this; omega
  have hmi : (m.length : Int) ≤ 9223372036854775807 := by have := hm.1; unfold maxLen at this; omega
  have hb1 : Below w.heap.size w ((w.alloc (.cells (vC x pa l.length c) 24)).alloc (.cells (vC y pb m.length e) 24)) := ((Below.refl _ _).alloc (Nat.le_refl _) _).alloc (by simp) _
  have hL1 : Lies ((w.alloc (.cells (vC x pa l.length c) 24)).alloc (.cells (vC y pb m.length e) 24)) w.heap.size (vC x pa l.length c) 24 := (Lies.new _ _ _).alloc _
  have hL2 : Lies ((w.alloc (.cells (vC x pa l.length c) 24)).alloc (.cells (vC y pb m.length e) 24)) (w.heap.size + 1) (vC y pb m.length e) 24 := by
    have := Lies.new (w.alloc (.cells (vC x pa l.length c) 24)) (vC y pb m.length e) 24
    simpa using this
  have hC := same_any _ pa pb l m c e (hl.below hb1 (Nat.le_refl _)) (hm.below hb1 (Nat.le_refl _))
  have H := Lib.hid (And.intro hC hb1)
  have c0 := hL1.cell 0 (v := .int .i64 x) rfl
  have c1 := hL1.cell 1 (v := .slice pa l.length c) rfl
  have d0 := hL2.cell 0 (v := .int .i64 y) rfl
  have d1 := hL2.cell 1 (v := .slice pb m.length e) rfl
  clear hl hm hC hb1 hL1 hL2
  unfold vC
  unfold vC at H c0 c1 d0 d1
  go_enter Tryz.func12, Tryz.ntmps12
  by_cases hxy : x = y
  · have HV := Lib.hid (show sameB x y l m = decide (l = m) by unfold sameB; simp [hxy])
    subst hxy
    go_wp2_with fail
    refine H.out.1.mono ?_
    rintro e w2 ⟨rfl, hb2⟩
    go_wp2_with fail
    go_ret
    refine ⟨?_, H.out.2.trans (hb2.mono H.out.2.size)⟩
    rw [HV.out]
    rfl
  · have HV := Lib.hid (show sameB x y l m = false by unfold sameB; simp [hxy])
    go_wp2_with fail
    go_ret
    refine ⟨?_, H.out.2⟩
    rw [HV.out]
    rfl
end Go.Proofs.YtjngghihciimjaaGreat
namespace Go.Proofs.YtjngghihciimjaaGreat
set_option maxRecDepth 100000
open Go.RowKit Go.Sort

theorem info_wide : (Tryz.prog.info? 48).map (·.size) = some 2 := by kernel_rfl
set_option maxHeartbeats 1000000 in
theorem wide_any (w : World) (n : Int) (h0 : -9223372036854775808 ≤ n) (h1 : n < 9223372036854775808) :
    Calls Tryz.prog 39 #[.int .i64 n] w fun e w' => e = .returned (wv (wide n)) ∧ Below w.heap.size w w' := by
  have HV := Lib.hid (And.intro (hi_wide n h0 h1) (lo_wide n))
  go_enter Tryz.func39, Tryz.ntmps39
  go_wp2
  have hb1 : Below w.heap.size w (w.alloc (.cells #[.int .i64 (n / 9223372036854775808), .int .u64 (IntKind.u64.wrap n)] 48)) := (Below.refl _ _).alloc (Nat.le_refl _) _
  have e : IntKind.u64.wrap n = (loN (wide n) : Int) := by rw [HV.out.2]; rfl
  refine bodyPost_ret (v := .agg #[.int .i64 (n / 9223372036854775808), .int .u64 (IntKind.u64.wrap n)]) (results_cell_row (p := 2) (ty := 48) (by kernel_rfl) _ _ w.heap.size 48 #[.int .i64 (n / 9223372036854775808), .int .u64 (IntKind.u64.wrap n)] (0, 0) _ rfl (Lies.new _ _ _) Tryz.underlying48 rfl info_wide) rfl ⟨?_, hb1⟩
  unfold wv
  rw [HV.out.1, e]
set_option maxHeartbeats 1000000 in
theorem amount_any (w : World) (x : BitVec 128) (hx : fitsW x = true) :
    Calls Tryz.prog 86 #[wv x] w fun e w' => e = .returned (.int .i64 x.toNat) ∧ Below w.heap.size w w' := by
  have hh := (fits_halves x).1 hx
  have hlo : (loN x : Int) ≤ 9223372036854775807 := by omega
  have hlo0 : (0 : Int) ≤ (loN x : Int) := by omega
  have HX := Lib.hid (show loN x = x.toNat by unfold fitsW at hx; rw [decide_eq_true_iff] at hx; unfold loN; omega)
  unfold wv
  rw [hh.1]
  have hb1 : Below w.heap.size w (w.alloc (.cells #[.int .i64 0, .int .u64 (loN x)] 48)) := (Below.refl _ _).alloc (Nat.le_refl _) _
  have H := Lib.hid hb1
  clear hh hb1 hx
  generalize loN x = lo at *
  go_enter Tryz.func86, Tryz.ntmps86
  go_wp2
  go_ret
  refine ⟨?_, H.out⟩
  rw [← HX.out]
  rfl
end Go.Proofs.YtjngghihciimjaaGreat
namespace Go.Proofs.YtjngghihciimjaaGreat
set_option maxRecDepth 100000
open Go.RowKit Go.Sort

theorem add64_run (x y : Int) (hx : 0 ≤ x) (hy : 0 ≤ y) (w : World) : (callFunc 76 #[.int .u64 x, .int .u64 y, .int .u64 0]).run Tryz.prog w =
    .ok (.value (.tuple #[.int .u64 ((x + y) % 18446744073709551616), .int .u64 ((x + y) / 18446744073709551616)])) w := by
  rw [run_callFunc_extern Tryz.func76 (by kernel_rfl) (by kernel_rfl) (by kernel_rfl) (e := add64Entry) (by kernel_rfl), run_add64 x y 0 hx hy (by decide) (by decide)]
  simp only [Int.add_zero]
  rfl
/-- A number of 128 bits, in cells. -/
def wC (x : BitVec 128) : Array Value := #[.int .i64 (hiS x), .int .u64 (loN x)]
theorem wC_one (x : BitVec 128) : (wC x).all (·.oneCell') = true := by simp [wC, Value.oneCell']
theorem wC_zero : wC 0 = #[.int .i64 0, .int .u64 0] := by kernel_rfl
theorem wv_wC (x : BitVec 128) : wv x = .agg (wC x) := rfl
/-- Such numbers lie one behind the other. -/
def HasW (w : World) (g off : Nat) (l : List (BitVec 128)) : Prop := ∀ (i : Nat) (x : BitVec 128), l[i]? = some x → w.rangeAt g (off + i * 2) (wC x).toList
theorem HasW.below {B : Nat} {w w' : World} {g off : Nat} {l : List (BitVec 128)} (h : HasW w g off l) (hb : Below B w w') (hg : g < B) : HasW w' g off l :=
  fun i a hi j v hv => (hb.cell (p := ⟨g, off + i * 2 + j, none⟩) hg).trans (h i a hi j v hv)
def sumL (l : List (BitVec 128)) : BitVec 128 := l.foldl (· + ·) 0
theorem sumL_take {l : List (BitVec 128)} {k : Nat} {x : BitVec 128} (h : l[k]? = some x) : sumL (l.take (k + 1)) = sumL (l.take k) + x := by
  unfold sumL
  rw [List.take_add_one, h, List.foldl_append]
  rfl
set_option maxHeartbeats 4000000 in
theorem plus_any (w : World) (g off c : Nat) (l : List (BitVec 128)) (hl : l.length ≤ maxLen) (hg : g < w.heap.size) (hs : HasW w g off l) :
    Calls Tryz.prog 36 #[.slice (some ⟨g, off, none⟩) l.length c] w fun e w' => e = .returned (wv (sumL l)) ∧ Below w.heap.size w w' := by
  have hli : (l.length : Int) ≤ 9223372036854775807 := by unfold maxLen at hl; omega
  have H := Lib.hid (And.intro hg hs)
  clear hl hg hs
  go_enter Tryz.func36, Tryz.ntmps36
  go_upto_region 3 with fail
  have hL1 : Lies ((w.alloc (.cells #[.int .i64 0, .int .u64 0] 48)).alloc (.cells #[.int .i64 0, .int .u64 0] 48)) w.heap.size #[.int .i64 0, .int .u64 0] 48 := (Lies.new _ _ _).alloc _
  have hL2 : Lies ((w.alloc (.cells #[.int .i64 0, .int .u64 0] 48)).alloc (.cells #[.int .i64 0, .int .u64 0] 48)) (w.heap.size + 1) (wC (sumL (l.take 0))) 48 := by
    have := Lies.new (w.alloc (.cells #[.int .i64 0, .int .u64 0] 48)) #[.int .i64 0, .int .u64 0] 48
    rw [show wC (sumL (l.take 0)) = #[.int .i64 0, .int .u64 0] from wC_zero]
    simpa using this
  have hb1 : Below w.heap.size w ((w.alloc (.cells #[.int .i64 0, .int .u64 0] 48)).alloc (.cells #[.int .i64 0, .int .u64 0] 48)) := ((Below.refl _ _).alloc (Nat.le_refl _) _).alloc (by simp) _
  generalize (w.alloc (.cells #[.int .i64 0, .int .u64 0] 48)).alloc (.cells #[.int .i64 0, .int .u64 0] 48) = W1 at hL1 hL2 hb1 ⊢
  go_loopw [10] (fun i W => ∃ k : Nat, k ≤ l.length ∧ i = .int .i64 k ∧ Below w.heap.size w W ∧ Lies W w.heap.size #[.int .i64 0, .int .u64 0] 48 ∧ Lies W (w.heap.size + 1) (wC (sumL (l.take k))) 48) (fun i _ => l.length - (intOf i).toNat)
  case atStart => exact ⟨0, Nat.zero_le _, rfl, hb1, hL1, hL2⟩
  case round =>
    clear hL1 hL2 hb1
    obtain ⟨k, hk, rfl, hb, z1, z2⟩ := hrel
    by_cases hlt : k < l.length
    · have m1 : (k : Int) < (l.length : Int) := by omega
      have m0 : (0 : Int) ≤ (k : Int) := by omega
      obtain ⟨x, hx⟩ : ∃ x, x = l[k] := ⟨_, rfl⟩
      have hkx : l[k]? = some x := by rw [hx, List.getElem?_eq_getElem hlt]
      have hrg := (H.out.2.below hb H.out.1) k x hkx
      obtain ⟨s, hs⟩ : ∃ s, s = sumL (l.take k) := ⟨_, rfl⟩
      have hnext : sumL (l.take (k + 1)) = s + x := by rw [hs]; exact sumL_take hkx
      rw [← hs] at z2
      obtain ⟨vx, hvx⟩ : ∃ v, v = wC x := ⟨_, rfl⟩
      have hvs : vx.size = 2 := by rw [hvx]; rfl
      rw [← hvx] at hrg
      have HRG := Lib.hid hrg
      have HR := Lib.hid (And.intro hb (And.intro z1 (And.intro z2 (And.intro hlt (And.intro hnext (And.intro hvs hvx))))))
      clear hb z1 z2 hlt hk hx hkx hrg hs hnext hvx hvs
      go_upto_region 5 with (first
        | (refine wpList_load_mid rfl 48 _ rfl g (off + k * 2) rfl vx.toList _ HRG.out Tryz.underlying48 rfl (by rw [Array.length_toList, HR.out.2.2.2.2.2.1]; exact info_wide) ?_)
        | (refine wpList_store_row rfl 48 _ _ rfl wr.heap.size vx rfl rfl 48 #[.int .i64 0, .int .u64 0] (Lies.new wr _ 48) (by rw [HR.out.2.2.2.2.2.1]; exact info_wide) HR.out.2.2.2.2.2.1.symm (by rw [HR.out.2.2.2.2.2.2]; exact wC_one x) ?_))
      rw [World.setRow_alloc_new]
      have hL5 : Lies (wr.alloc (.cells vx 48)) wr.heap.size (wC x) 48 := by rw [HR.out.2.2.2.2.2.2]; exact Lies.new _ _ _
      have hL6 : Lies (wr.alloc (.cells vx 48)) (w.heap.size + 1) (wC s) 48 := HR.out.2.2.1.alloc _
      have hL7 : Lies (wr.alloc (.cells vx 48)) w.heap.size #[.int .i64 0, .int .u64 0] 48 := HR.out.2.1.alloc _
      have hb5 : Below w.heap.size w (wr.alloc (.cells vx 48)) := HR.out.1.alloc HR.out.1.size _
      have hne : w.heap.size + 1 ≠ wr.heap.size := by have := HR.out.2.2.1.lt; omega
      generalize wr.alloc (.cells vx 48) = W5 at hL5 hL6 hL7 hb5 ⊢
      have ch := hL6.cell 0 (v := .int .i64 (hiS s)) rfl
      have cl := hL6.cell 1 (v := .int .u64 (loN s)) rfl
      have dh := hL5.cell 0 (v := .int .i64 (hiS x)) rfl
      have dl := hL5.cell 1 (v := .int .u64 (loN x)) rfl
      have HL := Lib.hid (And.intro (loN_lt s) (And.intro (loN_lt x) (And.intro (hi_add s x) (lo_add s x))))
      have H5 := Lib.hid (And.intro hL5 (And.intro hL6 (And.intro hL7 (And.intro hb5 hne))))
      clear hL5 hL6 hL7 hb5 hne
      have hadd := fun W => add64_run (loN s : Int) (loN x : Int) (by omega) (by omega) W
      go_upto_region 6 with fail
      clear hadd
      go_upto_region 7 with (refine wpList_store_row rfl 48 _ _ rfl (w.heap.size + 1) _ rfl rfl 48 (wC s) H5.out.2.1 info_wide rfl (by simp [Value.oneCell']) ?_)
      have e1 : wrap64 (wrap64 (hiS s + hiS x) + wrap64 (((loN s : Int) + (loN x : Int)) / 18446744073709551616)) = hiS (s + x) := by
        rw [HL.out.2.2.1]
        have h1 := HL.out.1
        have h2 := HL.out.2.1
        simp only [IntKind.wrap_i64]
        unfold wrap64
        omega
      have e2 : ((loN s : Int) + (loN x : Int)) % 18446744073709551616 = (loN (s + x) : Int) := by
        rw [HL.out.2.2.2]
        omega
      rw [e1, e2]
      have hz : Lies (W5.setRow (w.heap.size + 1) (wC (s + x))) (w.heap.size + 1) (wC (sumL (l.take (k + 1)))) 48 := by rw [HR.out.2.2.2.2.1]; exact H5.out.2.1.setRow _
      have hz1 : Lies (W5.setRow (w.heap.size + 1) (wC (s + x))) w.heap.size #[.int .i64 0, .int .u64 0] 48 := H5.out.2.2.1.setRowOther _ _ (by omega)
      have hzb : Below w.heap.size w (W5.setRow (w.heap.size + 1) (wC (s + x))) := below_setRow H5.out.2.2.2.1 _ _ (by omega)
      have HZ := Lib.hid (And.intro hzb (And.intro hz1 hz))
      clear hz hz1 hzb ch cl dh dl e1 e2
      change Code.wp _ _ _ _ (W5.setRow (w.heap.size + 1) (wC (s + x)))
      generalize W5.setRow (w.heap.size + 1) (wC (s + x)) = W7 at HZ ⊢
      go_wp2_with fail
      have e1 : (k : Int) + 1 = ((k + 1 : Nat) : Int) := by omega
      rw [e1]
      refine ⟨⟨k + 1, HR.out.2.2.2.1, rfl, HZ.out⟩, ?_⟩
      have h := HR.out.2.2.2.1
      show l.length - (k + 1) < l.length - k
      omega
    · have e1 : k = l.length := by omega
      have m1 : ¬ (k : Int) < (l.length : Int) := by omega
      rw [e1, List.take_length] at z2
      have HF := Lib.hid (And.intro hb (And.intro z1 z2))
      have c0 := z2.cell 0 (v := .int .i64 (hiS (sumL l))) rfl
      have c1 := z2.cell 1 (v := .int .u64 (loN (sumL l))) rfl
      clear hb z1 z2 hk hlt e1
      go_wp2_with (refine wpList_store_row rfl 48 _ _ rfl w.heap.size (wC (sumL l)) rfl rfl 48 #[.int .i64 0, .int .u64 0] HF.out.2.1 info_wide rfl (wC_one _) ?_)
      refine bodyPost_ret (v := wv (sumL l)) (results_cell_row (p := 2) (ty := 48) (by kernel_rfl) _ _ w.heap.size 48 (wC (sumL l)) (0, 0) _ rfl (HF.out.2.1.setRow _) Tryz.underlying48 rfl info_wide) rfl ⟨rfl, below_setRow HF.out.1 _ _ (Nat.le_refl _)⟩
end Go.Proofs.YtjngghihciimjaaGreat
namespace Go.Proofs.YtjngghihciimjaaGreat
set_option maxRecDepth 100000
open Go.RowKit Go.Sort

/-- A total: its name, how much. -/
structure To where
  nm : Nm
  w : BitVec 128
def toC (a : To) : Array Value := B8 a.nm.1 ++ #[.string (txt a.nm.2), .int .i64 (hiS a.w), .int .u64 (loN a.w)]
def ToOk (a : To) : Prop := a.nm.1.length = 32 ∧ a.nm.2.length ≤ maxLen
theorem toC_size (a : To) (h : a.nm.1.length = 32) : (toC a).size = 35 := by simp [toC, B8_size, h]
theorem toC_one (a : To) : (toC a).all (·.oneCell') = true := by
  unfold toC
  rw [Array.all_append, B8_one]
  simp [Value.oneCell']
theorem toC_get (a : To) (h : a.nm.1.length = 32) (j : Nat) (hj : j < 32) : (toC a)[j]? = some (.int .u8 (a.nm.1.getD j 0).toNat) := by
  unfold toC
  rw [Array.getElem?_append_left (by rw [B8_size]; omega)]
  exact B8_get _ _ (by omega)
theorem toC_txt (a : To) (h : a.nm.1.length = 32) : (toC a)[32]? = some (.string (txt a.nm.2)) := by
  unfold toC
  rw [Array.getElem?_append_right (by rw [B8_size]; omega), B8_size, h]
  rfl
theorem toC_hi (a : To) (h : a.nm.1.length = 32) : (toC a)[33]? = some (.int .i64 (hiS a.w)) := by
  unfold toC
  rw [Array.getElem?_append_right (by rw [B8_size]; omega), B8_size, h]
  rfl
theorem toC_lo (a : To) (h : a.nm.1.length = 32) : (toC a)[34]? = some (.int .u64 (loN a.w)) := by
  unfold toC
  rw [Array.getElem?_append_right (by rw [B8_size]; omega), B8_size, h]
  rfl
theorem info_total : (Tryz.prog.info? 75).map (·.size) = some 35 := by kernel_rfl
attribute [-go_sem] Instr.build
set_option maxHeartbeats 1000000 in
theorem callTotal_gro (w : World) (a : To) (ha : a.nm.1.length = 32) :
    Calls Tryz.prog 75 #[.agg (toC a)] w fun e w' => e = .returned (.agg (nmC a.nm)) ∧ Below w.heap.size w w' ∧ w.drawn ≤ w'.drawn := by
  obtain ⟨va, hva⟩ : ∃ v, v = toC a := ⟨_, rfl⟩
  obtain ⟨z, hz⟩ : ∃ z, z = z33 := ⟨_, rfl⟩
  rw [← hva]
  have HA := Lib.hid (And.intro hva (And.intro ha hz))
  clear hva ha
  go_enter Tryz.func75, Tryz.ntmps75
  go_upto_region 1 with fail
  rw [show (#[Value.int .u8 0, .int .u8 0, .int .u8 0, .int .u8 0, .int .u8 0, .int .u8 0, .int .u8 0, .int .u8 0, .int .u8 0, .int .u8 0, .int .u8 0, .int .u8 0, .int .u8 0, .int .u8 0, .int .u8 0, .int .u8 0, .int .u8 0, .int .u8 0, .int .u8 0, .int .u8 0, .int .u8 0, .int .u8 0, .int .u8 0, .int .u8 0, .int .u8 0, .int .u8 0, .int .u8 0, .int .u8 0, .int .u8 0, .int .u8 0, .int .u8 0, .int .u8 0, .string ⟨#[]⟩] : Array Value) = z from by rw [hz]; kernel_rfl]
  have hl1 : Lies ((w.alloc (.cells va 75)).alloc (.cells z 86)) w.heap.size va 75 := (Lies.new _ _ _).alloc _
  have hl2 : Lies ((w.alloc (.cells va 75)).alloc (.cells z 86)) (w.heap.size + 1) z 86 := by
    have := Lies.new (w.alloc (.cells va 75)) z 86
    simpa using this
  have hb0 : Below w.heap.size w ((w.alloc (.cells va 75)).alloc (.cells z 86)) := ((Below.refl _ _).alloc (Nat.le_refl _) _).alloc (by simp) _
  have HD0 : Hid (w.drawn ≤ ((w.alloc (.cells va 75)).alloc (.cells z 86)).drawn) := Lib.hid (Nat.le_refl _)
  generalize (w.alloc (.cells va 75)).alloc (.cells z 86) = W0 at hl1 hl2 hb0 HD0 ⊢
  rw [HA.out.1] at hl1
  have hp : Src W0 w.heap.size 0 a.nm.1 := fun j hj => by
    rw [Nat.zero_add]
    exact hl1.cell j (toC_get a HA.out.2.1 j (by rw [← HA.out.2.1]; exact hj))
  have c32 := hl1.cell 32 (toC_txt a HA.out.2.1)
  have HP := Lib.hid (And.intro (pol_range hp) (And.intro hl2 hb0))
  have hnm : nmC a.nm = B8 a.nm.1 ++ #[.string (txt a.nm.2)] := rfl
  have hsz : (B8 a.nm.1).size = 32 := by rw [B8_size]; exact HA.out.2.1
  have HN := Lib.hid (And.intro hnm (And.intro hsz (nmC_size a.nm HA.out.2.1)))
  obtain ⟨pv, hpv⟩ : ∃ v, v = B8 a.nm.1 := ⟨_, rfl⟩
  obtain ⟨tv, htv⟩ : ∃ v, v = txt a.nm.2 := ⟨_, rfl⟩
  obtain ⟨nv, hnv⟩ : ∃ v, v = nmC a.nm := ⟨_, rfl⟩
  have hbl : ∀ W, (Instr.build 86 #[(0, .agg pv), (1, .string tv)]).run Tryz.prog W = .ok (.agg nv) W := fun W => by
    rw [hpv, htv, hnv]
    exact run_build W 86 _ _ (built_called a.nm.1 HA.out.2.1 (txt a.nm.2))
  rw [← hpv] at HP HN
  rw [← htv] at c32
  rw [← hnv] at HN
  have HV := Lib.hid (And.intro hpv hnv)
  clear hl1 hl2 hb0 hp hz hnm hsz hpv htv hnv
  go_wp2_with (first
    | (refine wpList_load_mid rfl 26 _ rfl w.heap.size 0 rfl pv.toList _ HP.out.1 Tryz.underlying26 rfl (by rw [Array.length_toList, HN.out.2.1]; exact info_hash) ?_)
    | (refine wpList_store_row rfl 86 _ _ rfl (w.heap.size + 1) nv rfl rfl 86 z HP.out.2.1 (by rw [HN.out.2.2]; exact info_called) (by rw [HN.out.2.2, HA.out.2.2]; rfl) (by rw [HV.out.2]; exact nmC_one _) ?_))
  refine bodyPost_ret (v := .agg nv) (results_cell_row (p := 2) (ty := 86) (by kernel_rfl) _ _ (w.heap.size + 1) 86 nv (0, 0) _ rfl (HP.out.2.1.setRow _) Tryz.underlying86 rfl (by rw [HN.out.2.2]; exact info_called)) rfl ⟨by rw [HV.out.2], below_setRow HP.out.2.2 _ _ (by omega), HD0.out⟩
theorem callTotal_any (w : World) (a : To) (ha : a.nm.1.length = 32) :
    Calls Tryz.prog 75 #[.agg (toC a)] w fun e w' => e = .returned (.agg (nmC a.nm)) ∧ Below w.heap.size w w' :=
  (callTotal_gro w a ha).mono fun _ _ h => ⟨h.1, h.2.1⟩

theorem ret_gro {P : Program} {f : FuncId} {args : Array Value} {w : World} {v : Value} {R : World → Prop} (h : Calls P f args w fun e w' => e = .returned v ∧ R w') : Calls P f args w fun e w' => ∃ u, e = .returned u ∧ (u = v ∧ R w') :=
  h.mono fun _ _ h => ⟨v, h.1, rfl, h.2⟩
set_option maxHeartbeats 2000000 in
/-- Which of two totals stands ahead. -/
theorem cmpTotal_gro (w : World) (a b : To) (ha : a.nm.1.length = 32) (hb : b.nm.1.length = 32) :
    Calls Tryz.prog 124 #[.agg (toC a), .agg (toC b)] w fun e w' => e = .returned (.int .i64 (cN a.nm b.nm)) ∧ Below w.heap.size w w' ∧ w.drawn ≤ w'.drawn := by
  obtain ⟨va, hva⟩ : ∃ v, v = toC a := ⟨_, rfl⟩
  obtain ⟨vb, hvb⟩ : ∃ v, v = toC b := ⟨_, rfl⟩
  obtain ⟨na, hna⟩ : ∃ v, v = nmC a.nm := ⟨_, rfl⟩
  obtain ⟨nb, hnb⟩ : ∃ v, v = nmC b.nm := ⟨_, rfl⟩
  obtain ⟨z, hz⟩ : ∃ z, z = cN a.nm b.nm := ⟨_, rfl⟩
  have hca : ∀ W, Calls Tryz.prog 75 #[.agg va] W fun e w' => e = .returned (.agg na) ∧ Below W.heap.size W w' ∧ W.drawn ≤ w'.drawn := fun W => by
    rw [hva, hna]; exact callTotal_gro W a ha
  have hcb : ∀ W, Calls Tryz.prog 75 #[.agg vb] W fun e w' => e = .returned (.agg nb) ∧ Below W.heap.size W w' ∧ W.drawn ≤ w'.drawn := fun W => by
    rw [hvb, hnb]; exact callTotal_gro W b hb
  have hord : ∀ W, Calls Tryz.prog 89 #[.agg na, .agg nb] W fun e w' => e = .returned (.int .i64 z) ∧ Below W.heap.size W w' ∧ W.drawn ≤ w'.drawn := fun W => by
    rw [hna, hnb, hz]; exact order_gro W a.nm b.nm ha hb
  have hia : (Tryz.prog.info? 75).map (·.size) = some va.size := by rw [hva, toC_size a ha]; exact info_total
  have hib : (Tryz.prog.info? 75).map (·.size) = some vb.size := by rw [hvb, toC_size b hb]; exact info_total
  rw [← hva, ← hvb, ← hz]
  have H := Lib.hid (And.intro hca (And.intro hcb (And.intro hord (And.intro hia hib))))
  clear hva hvb hna hnb hz hca hcb hord hia hib ha hb
  go_enter Tryz.func124, Tryz.ntmps124
  go_upto_region 1 with fail
  have hl1 : Lies ((w.alloc (.cells va 75)).alloc (.cells vb 75)) w.heap.size va 75 := (Lies.new _ _ _).alloc _
  have hl2 : Lies ((w.alloc (.cells va 75)).alloc (.cells vb 75)) (w.heap.size + 1) vb 75 := by
    have := Lies.new (w.alloc (.cells va 75)) vb 75
    simpa using this
  have hb0 : Below w.heap.size w ((w.alloc (.cells va 75)).alloc (.cells vb 75)) := ((Below.refl _ _).alloc (Nat.le_refl _) _).alloc (by simp) _
  have HD0 : Hid (w.drawn ≤ ((w.alloc (.cells va 75)).alloc (.cells vb 75)).drawn) := Lib.hid (Nat.le_refl _)
  generalize (w.alloc (.cells va 75)).alloc (.cells vb 75) = W0 at hl1 hl2 hb0 HD0 ⊢
  have HS : Hid (∀ V, Below W0.heap.size W0 V → Lies V w.heap.size va 75 ∧ Lies V (w.heap.size + 1) vb 75) := Lib.hid fun V hV => ⟨hl1.below hV hl1.lt, hl2.below hV hl2.lt⟩
  have H0 := Lib.hid hb0
  clear hl1 hl2 hb0
  refine wp_region_noPanic (wp_region_held (S := fun V => Lies V w.heap.size va 75 ∧ Lies V (w.heap.size + 1) vb 75) (by kernel_rfl) ?_)
  change wpAnyH _ _ _ _ _ 6 _ _ (World.drew W0)
  have hbd : Below W0.heap.size W0 W0.drew := (Below.refl _ _).drew
  have hcur := HS.out _ hbd
  refine held_take (i := 0) (v := (.agg va)) rfl 5 rfl (by kernel_rfl) (by kernel_rfl) (by kernel_rfl) (fun _ _ _ h => h) (by rfl) (by intro w' hS'; exact exec_loadM 75 _ rfl _ _ rfl va (range_lies hS'.1) Tryz.underlying75 rfl H.out.2.2.2.1) hcur _ rfl ?_
  simp only [Act.put, List.setIfInBounds_toArray, List.set_cons_zero, List.set_cons_succ]
  refine held_take (i := 2) (v := (.agg vb)) rfl 7 rfl (by kernel_rfl) (by kernel_rfl) (by kernel_rfl) (fun _ _ _ h => h) (by rfl) (by intro w' hS'; exact exec_loadM 75 _ rfl _ _ rfl vb (range_lies hS'.2) Tryz.underlying75 rfl H.out.2.2.2.2) hcur _ rfl ?_
  simp only [Act.put, List.setIfInBounds_toArray, List.set_cons_zero, List.set_cons_succ]
  refine held_one (i := 1) (by kernel_rfl) _ rfl (wpOp_callG rfl (by rfl) 6 rfl 75 #[.agg va] (by unfold execOp; simp [go_sem]) _ (ret_gro (H.out.1 _)) ?_)
  rintro v1 w1 ⟨rfl, hb1, hd1⟩
  have hc1 := hbd.trans (hb1.mono hbd.size)
  have hcur := HS.out _ hc1
  refine ⟨hcur, ?_⟩
  simp only [Act.put, List.setIfInBounds_toArray, List.set_cons_zero, List.set_cons_succ]
  refine held_one (i := 3) (by kernel_rfl) _ rfl (wpOp_callG rfl (by rfl) 8 rfl 75 #[.agg vb] (by unfold execOp; simp [go_sem]) _ (ret_gro (H.out.2.1 _)) ?_)
  rintro v2 w2 ⟨rfl, hb2, hd2⟩
  have hc2 := hc1.trans (hb2.mono hc1.size)
  have hcur := HS.out _ hc2
  refine ⟨hcur, ?_⟩
  simp only [Act.put, List.setIfInBounds_toArray, List.set_cons_zero, List.set_cons_succ]
  refine held_one (i := 4) (by kernel_rfl) _ rfl (wpOp_callG rfl (by rfl) 9 rfl 89 #[.agg na, .agg nb] (by unfold execOp; simp [go_sem]) _ (ret_gro (H.out.2.2.1 _)) ?_)
  rintro v3 w3 ⟨rfl, hb3, hd3⟩
  have hc3 := hc2.trans (hb3.mono hc2.size)
  have hcur := HS.out _ hc3
  refine ⟨hcur, ?_⟩
  simp only [Act.put, List.setIfInBounds_toArray, List.set_cons_zero, List.set_cons_succ]
  refine held_take (i := 5) (v := (.int .i64 z)) rfl 4 rfl (by kernel_rfl) (by kernel_rfl) (by kernel_rfl) (fun _ _ _ h => h) (by rfl) (by intro w' hS'; unfold execOp; simp [go_sem]) hcur _ rfl ?_
  simp only [Act.put, List.setIfInBounds_toArray, List.set_cons_zero, List.set_cons_succ]
  refine wpAnyH_done (by kernel_rfl) ?_ _
  unfold NoPanic
  dsimp only
  have HB := Lib.hid (And.intro (H0.out.trans (hc3.mono H0.out.size)) (Nat.le_trans HD0.out (Nat.le_trans (Nat.le_succ _) (Nat.le_trans hd1 (Nat.le_trans hd2 hd3)))))
  clear hcur hbd hb1 hb2 hb3 hc1 hc2 hc3 hd1 hd2 hd3
  go_wp2_with fail
  go_ret
  exact ⟨rfl, HB.out⟩
theorem cmpTotal_any (w : World) (a b : To) (ha : a.nm.1.length = 32) (hb : b.nm.1.length = 32) :
    Calls Tryz.prog 124 #[.agg (toC a), .agg (toC b)] w fun e w' => e = .returned (.int .i64 (cN a.nm b.nm)) ∧ Below w.heap.size w w' :=
  (cmpTotal_gro w a b ha hb).mono fun _ _ h => ⟨h.1, h.2.1⟩
theorem cells48 : Tryz.prog.cellsOf 75 = 35 := by kernel_rfl
theorem cells39 : Tryz.prog.cellsOf 48 = 2 := by kernel_rfl
theorem cells37 : Tryz.prog.cellsOf 46 = 1 := by kernel_rfl
theorem keyed_total : Tryz.prog.keyTypeAt 5 75 = true := by kernel_rfl
theorem keyed_wide : Tryz.prog.keyTypeAt 5 48 = true := by kernel_rfl
def litW (x : BitVec 128) : List Lit := [.int .i64 (hiS x), .int .u64 (loN x)]
theorem litW_inj {x y : BitVec 128} (h : litW x = litW y) : x = y := by
  unfold litW at h
  simp only [List.cons.injEq, Lit.int.injEq, true_and, and_true] at h
  exact w_inj h.1 (by omega)
theorem lits_w (d : Nat) (x : BitVec 128) : Tryz.prog.keyLits (d + 2) 48 (wC x).toList = some (litW x) := by
  have h1 : (Lit.int .i64 (hiS x)).wf = true := by
    have := hiS_lo x
    show (decide ((-9223372036854775808 : Int) ≤ hiS x) && decide (hiS x ≤ 9223372036854775807)) = true
    rw [Bool.and_eq_true_iff, decide_eq_true_iff, decide_eq_true_iff]
    omega
  have h2 : (Lit.int .u64 (loN x : Int)).wf = true := by
    have := loN_lt x
    show (decide ((0 : Int) ≤ (loN x : Int)) && decide ((loN x : Int) ≤ 18446744073709551615)) = true
    rw [Bool.and_eq_true_iff, decide_eq_true_iff, decide_eq_true_iff]
    omega
  unfold Program.keyLits
  simp only [Tryz.underlying48, cells39, wC, List.length_cons, List.length_nil]
  rw [if_pos ⟨trivial, by kernel_rfl⟩]
  simp [Program.keyLits, Tryz.underlying2, Tryz.underlying46, cells2, cells37, h1, h2, litW]
end Go.Proofs.YtjngghihciimjaaGreat
