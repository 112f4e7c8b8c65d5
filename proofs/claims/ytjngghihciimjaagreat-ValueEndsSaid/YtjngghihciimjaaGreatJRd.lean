/-
  The document's own totals: those that are not 0; rows of totals merged.
-/
import Derived.Test.YtjngghihciimjaaGreatJVsu
import Derived.Test.YtjngghihciimjaaGreatJRa
import Derived.Test.YtjngghihciimjaaGreatJRc
namespace Go.Proofs.YtjngghihciimjaaGreat
set_option maxRecDepth 100000
open Go.RowKit Go.Sort Go.Maps
structure Tr where
 pa : Option Addr
 l : List To
 c : Nat
def RowRT (w : World) (pa : Option Addr) (rs : List Tr) : Prop := rs.length ≤ maxLen ∧ (0 < rs.length → ∃ g off, pa = some ⟨g, off, none⟩ ∧ g < w.heap.size ∧ ∀ (i : Nat) (r : Tr), rs[i]? = some r → w.cell? ⟨g, off + i, none⟩ = some (.slice r.pa r.l.length r.c) ∧ RowT w r.pa r.l)
def ctM (rs : List Tr) : List Ct := rs.flatMap fun r => ctT r.l
theorem ctM_take {rs : List Tr} {k : Nat} {r : Tr} (h : rs[k]? = some r) : ctM (rs.take (k + 1)) = ctM (rs.take k) ++ ctT r.l := by
 unfold ctM
 rw [List.take_add_one, h, List.flatMap_append]
 simp
theorem ctT_take {l : List To} {j : Nat} {a : To} (h : l[j]? = some a) : (ctT l).take (j + 1) = (ctT l).take j ++ [(a.nm, a.w)] := by
 unfold ctT
 rw [List.take_add_one, List.getElem?_map, h]
 rfl
theorem ctM_le {rs : List Tr} {k : Nat} {r : Tr} {j : Nat} (h : rs[k]? = some r) (hj : j ≤ r.l.length) : (ctM (rs.take k) ++ (ctT r.l).take j).length ≤ (ctM rs).length := by
 have h1 : ctM rs = ctM (rs.take (k + 1)) ++ ctM (rs.drop (k + 1)) := by
  unfold ctM
  rw [← List.flatMap_append, List.take_append_drop]
 rw [h1, ctM_take h]
 simp [ctT]
 omega
structure OnMg (w W : World) (L : List Ct) : Prop where
 below : Below w.heap.size w W
 map : ∃ D, W.ownsMap Tryz.prog 86 rdW w.heap.size L.length D ∧ HoldsF D (sumAt L)
theorem OnMg.step {w W W' : World} {L : List Ct} (h : OnMg w W L) (hb : Below W.heap.size W W') : OnMg w W' L := by
 obtain ⟨D, h1, h2⟩ := h.map
 exact ⟨h.below.trans (hb.mono h.below.size), ⟨D, h1.kept (grown_of (r := none) hb) (by simp), h2⟩⟩
theorem OnMg.put {w W W' : World} {L : List Ct} (h : OnMg w W L) {D : DataW Unit} (hf : HoldsF D (sumAt L)) (hD : IsMap D) (n : Nm) (x : BitVec 128) (hn : n.1.length = 32) (ht : n.2.length ≤ maxLen)
  (hp : PutW W W' w.heap.size (L.length + 1) (D.put (kN n) (dW (sumAt L n + x)))) : OnMg w W' (L ++ [(n, x)]) := by
 obtain ⟨h1, h2⟩ := hp
 have hb : Below w.heap.size w W' := h.below.trans ⟨h2.os, h2.tape, h2.output, h2.size, fun i hi => h2.block i (Nat.lt_of_lt_of_le hi h.below.size) (by simp; omega)⟩
 refine ⟨hb, ⟨D.put (kN n) (dW (sumAt L n + x)), ?_, ?_⟩⟩
 ·
  rw [List.length_append]; exact h1
 ·
  rw [← addAt_sumAt]; exact hf.put hD n x hn ht
def MergeResR (rs : List Tr) (B : Nat) (w' : World) (e : Ending) : Prop := ∃ p l c', e = .returned (.slice p l.length c') ∧ RowT w' p l ∧ IsTot (sumAt (ctM rs)) (ctT l) ∧ RoomT B w' p l.length c'
set_option maxHeartbeats 4000000 in
theorem mergeR_any (w : World) (pa : Option Addr) (rs : List Tr) (c : Nat) (h : RowRT w pa rs) (hc : (ctM rs).length ≤ 1000000) (hnm : ∀ p, p ∈ ctM rs → p.1.1.length = 32 ∧ p.1.2.length ≤ 281474976710656) :
  Calls Tryz.prog 35 #[.slice pa rs.length c] w fun e w' => MergeResR rs w.heap.size w' e ∧ Below w.heap.size w w' := by
 have hli : (rs.length : Int) ≤ 9223372036854775807 := by have := h.1; unfold maxLen at this; omega
 have H := Lib.hid (And.intro h (And.intro hc hnm))
 clear h hc hnm
 have hmk := fun W => run_makeMap (P := Tryz.prog) 121 W
 go_enter Tryz.func35, Tryz.ntmps35
 go_upto_region 3 with fail
 have hway : OnMg w (w.alloc (.map #[] 0)) (ctM (rs.take 0)) := ⟨(Below.refl _ _).alloc (Nat.le_refl _) _, ⟨.map [], World.ownsMap_made (H := Unit) w Tryz.prog 86 rdW, HoldsF.none⟩⟩
 clear hmk
 generalize w.alloc (.map #[] 0) = W1 at hway ⊢
 have HW := Lib.hid hway
 clear hway
 go_loopw [11] (fun i W => ∃ k : Nat, k ≤ rs.length ∧ i = .int .i64 k ∧ OnMg w W (ctM (rs.take k))) (fun i _ => rs.length - (intOf i).toNat)
 case atStart => exact ⟨0, Nat.zero_le _, rfl, HW.out⟩
 case round =>
  clear HW
  obtain ⟨k, hk, rfl, hway⟩ := hrel
  by_cases hlt : k < rs.length
  ·
   have m1 : (k : Int) < (rs.length : Int) := by omega
   have m0 : (0 : Int) ≤ (k : Int) := by omega
   obtain ⟨g, off, rfl, hg, hh⟩ := H.out.1.2 (by omega)
   obtain ⟨r, hr⟩ : ∃ r, r = rs[k] := ⟨_, rfl⟩
   have hkr : rs[k]? = some r := by rw [hr, List.getElem?_eq_getElem hlt]
   obtain ⟨pr, hpr⟩ : ∃ p, p = r.pa := ⟨_, rfl⟩
   have c0 := (hway.below.cell (p := ⟨g, off + k, none⟩) hg).trans (hh k r hkr).1
   rw [← hpr] at c0
   have hrow := (hh k r hkr).2
   have hvl : (r.l.length : Int) ≤ 9223372036854775807 := by have := hrow.1; unfold maxLen at this; omega
   obtain ⟨L, hL⟩ : ∃ L, L = ctM (rs.take k) := ⟨_, rfl⟩
   have hL' : ctM (rs.take (k + 1)) = L ++ ctT r.l := by rw [hL]; exact ctM_take hkr
   have hLe : ∀ j, j ≤ r.l.length → (L ++ (ctT r.l).take j).length ≤ (ctM rs).length := fun j hj => by rw [hL]; exact ctM_le hkr hj
   rw [← hL] at hway
   have HR := Lib.hid (And.intro hway (And.intro hlt (And.intro hrow (And.intro hL' (And.intro hLe hpr)))))
   clear hk hlt hway hg hh hr hkr hrow hL hL' hLe hpr
   go_upto_region 6 with fail
   go_loopw [17] (fun i W => ∃ j : Nat, j ≤ r.l.length ∧ i = .int .i64 j ∧ OnMg w W (L ++ (ctT r.l).take j)) (fun i _ => r.l.length - (intOf i).toNat)
   case atStart => exact ⟨0, Nat.zero_le _, rfl, by simpa using HR.out.1⟩
   case round =>
     obtain ⟨j, hj, rfl, hway⟩ := hrel
     by_cases hlt : j < r.l.length
     ·
      have n1 : (j : Int) < (r.l.length : Int) := by omega
      have n0 : (0 : Int) ≤ (j : Int) := by omega
      obtain ⟨ga, oa, hpa, hga, hha⟩ := HR.out.2.2.1.2.2 (by omega)
      rw [← HR.out.2.2.2.2.2] at hpa
      subst hpa
      obtain ⟨a, ha⟩ : ∃ a, a = r.l[j] := ⟨_, rfl⟩
      have hka : r.l[j]? = some a := by rw [ha, List.getElem?_eq_getElem hlt]
      have oka := HR.out.2.2.1.2.1 a (List.mem_of_getElem? hka)
      have hrg := (hha.below hway.below hga) j a hka
      obtain ⟨ov, hov⟩ : ∃ v, v = toC a := ⟨_, rfl⟩
      obtain ⟨na, hna⟩ : ∃ v, v = nmC a.nm := ⟨_, rfl⟩
      have hvs : ov.size = 35 := by rw [hov]; exact toC_size a oka.1
      have hv1 : ov.all (·.oneCell') = true := by rw [hov]; exact toC_one a
      have hwd : ∀ (U : World) (b : Nat), Lies U b ov 75 → U.rangeAt b 33 (#[Value.int .i64 (hiS a.w), .int .u64 (loN a.w)] : Array Value).toList := fun U b hU j v hv => by
       rw [hov] at hU
       have hj : j = 0 ∨ j = 1 := by have := (List.getElem?_eq_some_iff.1 hv).1; simp at this; omega
       rcases hj with rfl | rfl
       ·
        simp at hv; subst hv; exact hU.cell 33 (toC_hi a oka.1)
       ·
        simp at hv; subst hv; exact hU.cell 34 (toC_lo a oka.1)
      rw [← hov] at hrg
      have hcall : ∀ W, Calls Tryz.prog 75 #[.agg ov] W fun e w' => e = .returned (.agg na) ∧ Below W.heap.size W w' := fun W => by
       rw [hov, hna]; exact callTotal_any W a oka.1
      obtain ⟨Lj, hLj⟩ : ∃ l, l = L ++ (ctT r.l).take j := ⟨_, rfl⟩
      have hLj' : L ++ (ctT r.l).take (j + 1) = Lj ++ [(a.nm, a.w)] := by rw [hLj, ctT_take hka, List.append_assoc]
      have hLl : Lj.length < maxLen := by rw [hLj]; exact Nat.lt_of_le_of_lt (Nat.le_trans (HR.out.2.2.2.2.1 j hj) H.out.2.1) (by decide)
      rw [← hLj] at hway
      have hput : ∀ W D, W.ownsMap Tryz.prog 86 rdW w.heap.size Lj.length D → HoldsF D (sumAt Lj) → Calls Tryz.prog 67 #[.map (some w.heap.size), .agg na, .agg #[.int .i64 (hiS a.w), .int .u64 (loN a.w)]] W fun e w' => e = .returned (.tuple #[]) ∧ PutW W w' w.heap.size (Lj.length + 1) (D.put (kN a.nm) (dW (sumAt Lj a.nm + a.w))) := fun W D h1 h2 => by
       rw [hna]; exact put_any W w.heap.size Lj.length D (sumAt Lj) a.nm a.w h1 h2 hLl oka.1 oka.2
      have HI := Lib.hid (And.intro (show (Tryz.prog.info? 75).map (·.size) = some ov.size by rw [hvs]; exact info_total) (And.intro hcall (And.intro hwd hput)))
      have HJ := Lib.hid (And.intro hway (And.intro hlt (And.intro hLj' (And.intro oka (And.intro hvs hv1)))))
      have HRG := Lib.hid hrg
      clear hway hlt hj ha hka oka hov hna hvs hv1 hha hga hrg hcall hwd hput hLj hLj' hLl
      go_upto_region 8 with (first
       | (refine wpList_load_mid rfl 75 _ rfl ga (oa + j * 35) rfl ov.toList _ HRG.out Tryz.underlying75 rfl (by rw [Array.length_toList]; exact HI.out.1) ?_)
       | (refine wpList_store_row rfl 75 _ _ rfl wr.heap.size ov rfl rfl 75 z35 (Lies.new wr z35 75) HI.out.1 (by rw [HJ.out.2.2.2.2.1]; kernel_rfl) HJ.out.2.2.2.2.2 ?_))
      rw [World.setRow_alloc_new]
      obtain ⟨b9, hb9⟩ : ∃ b, b = wr.heap.size := ⟨_, rfl⟩
      have hL9 : Lies (wr.alloc (.cells ov 75)) b9 ov 75 := by rw [hb9]; exact Lies.new _ _ _
      have hw9 : OnMg w (wr.alloc (.cells ov 75)) Lj := HJ.out.1.step ((Below.refl _ _).alloc (Nat.le_refl _) _)
      have hfar : w.heap.size < b9 := by
       rw [hb9]
       obtain ⟨D, hD, _⟩ := HJ.out.1.map
       exact hD.lt
      rw [← hb9]
      generalize wr.alloc (.cells ov 75) = W9 at hL9 hw9 ⊢
      have HS9 : Hid (∀ U, Below W9.heap.size W9 U → Lies U b9 ov 75) := Lib.hid fun U hU => hL9.below hU hL9.lt
      have HW9 := Lib.hid hw9
      clear hL9 hw9 hb9
      refine wp_region_noPanic (wp_region_held (S := fun U => Lies U b9 ov 75) (by kernel_rfl) ?_)
      change wpAnyH _ _ _ _ _ 6 _ _ (World.drew W9)
      have hbd : Below W9.heap.size W9 W9.drew := (Below.refl _ _).drew
      generalize World.drew W9 = wd9 at hbd ⊢
      have hcur := HS9.out _ hbd
      refine tk 0 (.map (some w.heap.size)) 21 rfl rfl hcur ?_
      refine tk 1 (.agg ov) 22 rfl rfl hcur ?_ (by intro w' hS'; exact exec_loadM 75 _ rfl _ _ rfl ov (range_lies hS') Tryz.underlying75 rfl HI.out.1)
      refine tk 3 (.pointer (some ⟨b9, 33, none⟩)) 24 rfl rfl hcur ?_
      refine tk 4 (.agg #[.int .i64 (hiS a.w), .int .u64 (loN a.w)]) 25 rfl rfl hcur ?_ (by intro w' hS'; exact exec_loadM 48 _ rfl _ _ rfl #[.int .i64 (hiS a.w), .int .u64 (loN a.w)] (HI.out.2.2.1 _ _ hS') Tryz.underlying48 rfl info_wide)
      refine held_one (i := 2) (by kernel_rfl) _ rfl (wpOp_callG rfl (by rfl) 23 rfl 75 #[.agg ov] (by unfold execOp; simp [go_sem]) _ (ret_of (HI.out.2.1 _)) ?_)
      rintro v1 w1 ⟨rfl, hb1⟩
      have hc1 := hbd.trans (hb1.mono hbd.size)
      have hcur := HS9.out _ hc1
      refine ⟨hcur, ?_⟩
      simp only [Act.put, List.setIfInBounds_toArray, List.set_cons_zero, List.set_cons_succ]
      have hw2 := HW9.out.step hc1
      obtain ⟨D, hD, hDf⟩ := hw2.map
      refine held_one (i := 5) (by kernel_rfl) _ rfl (wpOp_callG rfl (by rfl) 26 rfl 67 #[.map (some w.heap.size), .agg na, .agg #[.int .i64 (hiS a.w), .int .u64 (loN a.w)]] (by unfold execOp; simp [go_sem]) _ (ret_gro (HI.out.2.2.2 w1 D hD hDf)) ?_)
      rintro v3 w3 ⟨rfl, hp3⟩
      have hS3 : Lies w3 b9 ov 75 := lies_grown hp3.2 hcur (by simp; omega)
      refine ⟨hS3, ?_⟩
      simp only [Act.put, List.setIfInBounds_toArray, List.set_cons_zero, List.set_cons_succ]
      have hw3 : OnMg w w3 (Lj ++ [(a.nm, a.w)]) := hw2.put hDf hD.isMap a.nm a.w HJ.out.2.2.2.1.1 HJ.out.2.2.2.1.2 hp3
      have HE := Lib.hid hw3
      clear hw3 hw2 hD hDf hp3 hS3 hcur hc1 hb1 hbd
      refine wpAnyH_done (by kernel_rfl) ?_ _
      unfold NoPanic
      dsimp only
      go_wp2_with fail
      have e1 : (j : Int) + 1 = ((j + 1 : Nat) : Int) := by omega
      rw [e1]
      refine ⟨⟨j + 1, HJ.out.2.1, rfl, by rw [HJ.out.2.2.1]; exact HE.out⟩, ?_⟩
      have h := HJ.out.2.1
      show r.l.length - (j + 1) < r.l.length - j
      omega
     ·
      have n1 : ¬ (j : Int) < (r.l.length : Int) := by omega
      have HE : Hid (OnMg w wr (L ++ ctT r.l)) := Lib.hid (by
       have e : (ctT r.l).take j = ctT r.l := List.take_of_length_le (by unfold ctT; rw [List.length_map]; omega)
       rw [e] at hway; exact hway)
      clear hway hlt hj
      go_wp2_with fail
      have e1 : (k : Int) + 1 = ((k + 1 : Nat) : Int) := by omega
      rw [e1]
      refine ⟨⟨k + 1, HR.out.2.1, rfl, by rw [HR.out.2.2.2.1]; exact HE.out⟩, ?_⟩
      have h := HR.out.2.1
      show rs.length - (k + 1) < rs.length - k
      omega
  ·
   have m1 : ¬ (k : Int) < (rs.length : Int) := by omega
   have hkk : k = rs.length := by omega
   subst hkk
   rw [List.take_length] at hway
   obtain ⟨D, hD, hDf⟩ := hway.map
   have htot := totals_any wr w.heap.size _ D _ hD hDf H.out.2.1 (fun m hm => by
    obtain ⟨p, hp, e⟩ := sumAt_mem hm
    rw [← e]
    exact H.out.2.2 p hp)
   have HE := Lib.hid (And.intro htot hway.below)
   clear hway hlt hk hD hDf htot
   go_wp2_with fail
   refine HE.out.1.mono ?_
   rintro e w2 ⟨p, l, c', rfl, hr, ht, hb, hfr, hrm⟩
   have HF := Lib.hid (And.intro hr (And.intro ht (And.intro (HE.out.2.trans (hb.mono HE.out.2.size)) (hrm.mono HE.out.2.size))))
   clear hr ht hb hfr hrm
   go_wp2_with fail
   go_ret
   exact ⟨⟨p, l, c', rfl, HF.out.1, HF.out.2.1, HF.out.2.2.2⟩, HF.out.2.2.1⟩
end Go.Proofs.YtjngghihciimjaaGreat
namespace Go.Proofs.YtjngghihciimjaaGreat
set_option maxRecDepth 100000
open Go.RowKit Go.Sort Go.Maps
attribute [-go_sem] Instr.buildSlice
set_option maxHeartbeats 4000000 in
theorem rsome_any (w : World) (pa : Option Addr) (c : Nat) (l : List To) (h : RowT w pa l) (hl : l.length ≤ 1000000) :
  Calls Tryz.prog 70 #[.slice pa l.length c] w fun e w' => (∃ v, e = .returned v ∧ OwnTo w' w.heap.size v (someL l)) ∧ Below w.heap.size w w' := by
 have hli : (l.length : Int) ≤ 9223372036854775807 := by omega
 obtain ⟨i0, z0, hi0, hz0, hz1, hz2, hz3⟩ := info_parts info48
 have HI := Lib.hid (And.intro hi0 (And.intro hz0 (And.intro hz1 (And.intro hz2 hz3))))
 have HH := Lib.hid (And.intro h hl)
 clear h hl hi0 hz0 hz1 hz2 hz3
 go_enter Tryz.func70, Tryz.ntmps70
 go_wp2_with fail
 go_loopw [3, 4] (fun s i W => ∃ k : Nat, k ≤ l.length ∧ i = .int .i64 k ∧ OwnTo W w.heap.size s (someL (l.take k)) ∧ Below w.heap.size w W) (fun _ i _ => l.length - (intOf i).toNat)
 case atStart => exact ⟨0, Nat.zero_le _, rfl, World.ownsRow_nil _ _ _ _, Below.refl _ _⟩
 case round =>
  obtain ⟨k, hk, rfl, hown, hb⟩ := hrel
  by_cases hlt : k < l.length
  ·
   have m1 : (k : Int) < (l.length : Int) := by omega
   have m0 : (0 : Int) ≤ (k : Int) := by omega
   obtain ⟨g, off, rfl, hg, hh⟩ := HH.out.1.2.2 (by omega)
   obtain ⟨y, hy⟩ : ∃ y, y = l[k] := ⟨_, rfl⟩
   have hky : l[k]? = some y := by rw [hy, List.getElem?_eq_getElem hlt]
   have oky := HH.out.1.2.1 y (List.mem_of_getElem? hky)
   have hrg := (hh.below hb hg) k y hky
   obtain ⟨c33, c34⟩ := toC_wide oky.1 hrg
   have c35 : wr.cell? ⟨g, off + k * 35 + 33 + 1, none⟩ = some (.int .u64 (loN y.w)) := c34
   have hnx := some_take hky
   have hfl : (someL (l.take k)).length ≤ k := by
    have h1 := List.length_filter_le (fun t : To => !decide (t.w = 0)) (l.take k)
    have h2 : (l.take k).length ≤ k := by rw [List.length_take]; omega
    exact Nat.le_trans h1 h2
   by_cases h0 : y.w = 0
   ·
    rw [if_pos h0, List.append_nil] at hnx
    have hq : ∀ W, (Op.equalIn 10000 48 (.agg #[.int .i64 (hiS y.w), .int .u64 (loN y.w)]) (.agg #[.int .i64 0, .int .u64 0])).run Tryz.prog W = .ok true W := fun W => by
     have := eq_w W y.w 0
     rw [wC_zero, decide_eq_true h0] at this
     exact this
    rw [← hnx] at hown
    have HR := Lib.hid (And.intro hown (And.intro hb hlt))
    clear hown hb hlt hky oky hrg hnx h0 hg hh hy hk hfl
    go_wp2_with fail
    have e1 : (k : Int) + 1 = ((k + 1 : Nat) : Int) := by omega
    rw [e1]
    refine ⟨⟨k + 1, HR.out.2.2, rfl, HR.out.1, HR.out.2.1⟩, ?_⟩
    have h := HR.out.2.2
    show l.length - (k + 1) < l.length - k
    omega
   ·
    rw [if_neg h0] at hnx
    have hq : ∀ W, (Op.equalIn 10000 48 (.agg #[.int .i64 (hiS y.w), .int .u64 (loN y.w)]) (.agg #[.int .i64 0, .int .u64 0])).run Tryz.prog W = .ok false W := fun W => by
     have := eq_w W y.w 0
     rw [wC_zero, decide_eq_false h0] at this
     exact this
    obtain ⟨yv, hyv⟩ : ∃ v, v = toC y := ⟨_, rfl⟩
    have hys : yv.size = 35 := by rw [hyv]; exact toC_size y oky.1
    have hsl : ∀ W : World, (Instr.buildSlice 49 1 #[(0, .agg yv)]).run Tryz.prog W = .ok (.slice (some ⟨W.heap.size, 0, none⟩) 1 1) (W.alloc (.cells yv 75)) := fun W => run_slice1 W 49 75 35 64 yv Tryz.underlying49 info48 (by decide) (by decide) hys
    have hbz : Below wr.heap.size wr (wr.alloc (.cells yv 75)) := (Below.refl _ _).alloc (Nat.le_refl _) _
    have hownz : OwnTo (wr.alloc (.cells yv 75)) w.heap.size u3 (someL (l.take k)) := ownsRow_below hown hbz
    have hsrc := src_one toC (a := y) (by rw [← hyv]; exact Lies.new wr yv 75)
    have hbb := hb.trans (hbz.mono hb.size)
    rw [← hyv] at hrg
    have HR := Lib.hid (And.intro hownz (And.intro hbb (And.intro hlt (And.intro hsrc (And.intro hrg (And.intro oky (And.intro hnx (And.intro hys hfl))))))))
    clear hown hb hlt hky hrg hnx h0 hg hh hy hk hbz hownz hsrc hbb oky hyv hys hfl
    go_upto_region 6 with fail
    clear c33 c34 c35 hq
    go_wp2_with (first
     | (refine wpList_load_mid rfl 75 _ rfl g (off + k * 35) rfl yv.toList _ HR.out.2.2.2.2.1 Tryz.underlying75 rfl (by rw [Array.length_toList, HR.out.2.2.2.2.2.2.2.1]; exact info_total) ?_)
     | (at_builtin; go_must (refine wpList_append_own_at _ rfl _ _ 49 rfl w.heap.size 75 i0 z0 35 64 Tryz.underlying49 HI.out.1 HI.out.2.1 HI.out.2.2.1 HI.out.2.2.2.1 HI.out.2.2.2.2 (by decide) _ (someL (l.take k)).length _ rfl HR.out.1 ⟨wr.heap.size, 0, none⟩ 1 1 (cellsF toC [y]) rfl (cellsF_len toC 35 _ fun a ha => by rw [List.mem_singleton] at ha; rw [ha]; exact toC_size _ HR.out.2.2.2.2.2.1.1) HR.out.2.2.2.1 (cellsF_one toC _ fun a _ => toC_one a) (by have h1 := HR.out.2.2.2.2.2.2.2.2; have h2 := HR.out.2.2.1; have h3 := HH.out.2; unfold maxLen; omega) (by have h1 := HR.out.2.2.2.2.2.2.2.2; have h2 := HR.out.2.2.1; have h3 := HH.out.2; omega) HR.out.2.1.size ?_; intro v' wz hown' hgrow _ hat)))
    have e1 : (k : Int) + 1 = ((k + 1 : Nat) : Int) := by omega
    rw [e1]
    refine ⟨⟨k + 1, HR.out.2.2.1, rfl, ?_, HR.out.2.1.grown hgrow HR.out.2.1.size (fun j hj => (HR.out.1.lt j hj).1)⟩, ?_⟩
    ·
     rw [HR.out.2.2.2.2.2.2.1]
     unfold OwnTo
     rw [cellsF_app, List.length_append]
     exact hown'
    ·
     have h := HR.out.2.2.1
     show l.length - (k + 1) < l.length - k
     omega
  ·
   have m1 : ¬ (k : Int) < (l.length : Int) := by omega
   have e1 : k = l.length := by omega
   rw [e1, List.take_length] at hown
   have HE := Lib.hid (And.intro hown hb)
   clear hown hb hk hlt e1
   go_wp2_with fail
   go_ret
   exact ⟨⟨_, rfl, HE.out.1⟩, HE.out.2⟩
structure OnPut (w W : World) (s : Value) (L : List Ct) : Prop where
 below : Below w.heap.size w W
 row : ∃ p c, s = .slice p (putAll [] L).length c ∧ RowT W p (putAll [] L)
theorem OnPut.start (w : World) : OnPut w w (.slice none 0 0) [] := ⟨Below.refl _ _, none, 0, rfl, Nat.zero_le _, fun a ha => by simp [putAll] at ha, fun h => absurd h (by simp [putAll])⟩
theorem OnPut.step {w W U : World} {s : Value} {L : List Ct} (h : OnPut w W s L) (hb : Below W.heap.size W U) : OnPut w U s L := by
 obtain ⟨h1, p, c, h2, h3⟩ := h
 exact ⟨h1.trans (hb.mono h1.size), p, c, h2, h3.below hb (Nat.le_refl _)⟩
theorem putAll_snoc (L : List Ct) (c : Ct) : putAll [] (L ++ [c]) = putL ⟨c.1, c.2⟩ (putAll [] L) := by
 rw [putAll_app]
 rfl
theorem ok_all {L : List Ct} (h : ∀ p, p ∈ L → p.1.1.length = 32 ∧ p.1.2.length ≤ maxLen) : ∀ t, t ∈ putAll [] L → ToOk t := fun t ht => by
 rcases mem_all ht with ⟨y, hy, _⟩ | ⟨p, hp, e⟩
 ·
  simp at hy
 ·
  have := h p hp
  rw [e] at this
  exact this
theorem OnPut.put {w W W' : World} {s v : Value} {L : List Ct} {x : Ct} (h : OnPut w W s L) (hok : ∀ p, p ∈ L ++ [x] → p.1.1.length = 32 ∧ p.1.2.length ≤ maxLen) (hl : (L ++ [x]).length ≤ 1000000) (ho : OwnTo W' W.heap.size v (putL ⟨x.1, x.2⟩ (putAll [] L))) (hb : Below W.heap.size W W') : OnPut w W' v (L ++ [x]) := by
 rw [← putAll_snoc] at ho
 have hlen := len_all [] (L ++ [x])
 obtain ⟨p, c, e, hr⟩ := OwnTo.row ho (ok_all hok) (by
  have : ([] : List To).length = 0 := rfl
  unfold maxLen
  omega)
 exact ⟨h.below.trans (hb.mono h.below.size), p, c, e, hr⟩
theorem put_call (W : World) (p : Option Addr) (c : Nat) (L : List Ct) (x : To) (hr : RowT W p (putAll [] L)) (hx : ToOk x) (hl : L.length ≤ 1000000) :
  Calls Tryz.prog 69 #[.slice p (putAll [] L).length c, .agg (toC x)] W fun e w' => (∃ v, e = .returned v ∧ OwnTo w' W.heap.size v (putL x (putAll [] L))) ∧ Below W.heap.size W w' :=
 rput_any W p c (putAll [] L) x hr (rise_all L List.Pairwise.nil) hx (by
  have := len_all [] L
  have e : ([] : List To).length = 0 := rfl
  omega)
def RefTot (L : List Ct) (w w' : World) (e : Ending) : Prop := ∃ p l c, e = .returned (.slice p l.length c) ∧ RowT w' p l ∧ IsTot (sumAt L) (ctT l) ∧ Fresh w.heap.size p ∧ Below w.heap.size w w'
theorem some_call (W : World) (p : Option Addr) (c : Nat) (L : List Ct) (hr : RowT W p (putAll [] L)) (hl : L.length ≤ 1000000) :
  Calls Tryz.prog 70 #[.slice p (putAll [] L).length c] W fun e w' => RefTot L W w' e :=
 (rsome_any W p c (putAll [] L) hr (by
  have := len_all [] L
  have e : ([] : List To).length = 0 := rfl
  omega)).mono fun e w' hh => by
  obtain ⟨⟨v, he, ho⟩, hb⟩ := hh
  obtain ⟨p2, c2, e2, hr2⟩ := OwnTo.row ho (fun t ht => hr.2.1 t (List.mem_filter.1 ht).1) (Nat.le_trans (List.length_filter_le _ _) hr.1)
  refine ⟨p2, _, c2, by rw [he, e2], hr2, all_tot L, fun a ea => ?_, hb⟩
  rw [e2, ea] at ho
  exact (ho.lt a.block rfl).1
set_option maxHeartbeats 8000000 in
theorem rmerge_any (w : World) (pa : Option Addr) (rs : List Tr) (c : Nat) (h : RowRT w pa rs) (hc : (ctM rs).length ≤ 1000000) (hnm : ∀ p, p ∈ ctM rs → p.1.1.length = 32 ∧ p.1.2.length ≤ maxLen) :
  Calls Tryz.prog 37 #[.slice pa rs.length c] w fun e w' => RefTot (ctM rs) w w' e := by
 have hli : (rs.length : Int) ≤ 9223372036854775807 := by have := h.1; unfold maxLen at this; omega
 have H := Lib.hid (And.intro h (And.intro hc hnm))
 clear h hc hnm
 go_enter Tryz.func37, Tryz.ntmps37
 go_wp2_with fail
 go_loopw [3, 4] (fun s i W => ∃ k : Nat, k ≤ rs.length ∧ i = .int .i64 k ∧ OnPut w W s (ctM (rs.take k))) (fun _ i _ => rs.length - (intOf i).toNat)
 case atStart => exact ⟨0, Nat.zero_le _, rfl, OnPut.start w⟩
 case round =>
  obtain ⟨k, hk, rfl, hway⟩ := hrel
  by_cases hlt : k < rs.length
  ·
   have m1 : (k : Int) < (rs.length : Int) := by omega
   have m0 : (0 : Int) ≤ (k : Int) := by omega
   obtain ⟨g, off, rfl, hg, hh⟩ := H.out.1.2 (by omega)
   obtain ⟨r, hr⟩ : ∃ r, r = rs[k] := ⟨_, rfl⟩
   have hkr : rs[k]? = some r := by rw [hr, List.getElem?_eq_getElem hlt]
   have hcell : ∀ U, Below w.heap.size w U → U.cell? ⟨g, off + k, none⟩ = some (.slice r.pa r.l.length r.c) := fun U hU => (hU.cell (p := ⟨g, off + k, none⟩) hg).trans (hh k r hkr).1
   have hrow := (hh k r hkr).2
   have hvl : (r.l.length : Int) ≤ 9223372036854775807 := by have := hrow.1; unfold maxLen at this; omega
   obtain ⟨L, hL⟩ : ∃ L, L = ctM (rs.take k) := ⟨_, rfl⟩
   have hL' : ctM (rs.take (k + 1)) = L ++ ctT r.l := by rw [hL]; exact ctM_take hkr
   have hLe : ∀ j, j ≤ r.l.length → (L ++ (ctT r.l).take j).length ≤ 1000000 := fun j hj => by rw [hL]; exact Nat.le_trans (ctM_le hkr hj) H.out.2.1
   have hLn : ∀ p, p ∈ L ++ ctT r.l → p.1.1.length = 32 ∧ p.1.2.length ≤ maxLen := fun p hp => H.out.2.2 p (by
    rw [← hL'] at hp
    have e : ctM rs = ctM (rs.take (k + 1)) ++ ctM (rs.drop (k + 1)) := by
     unfold ctM
     rw [← List.flatMap_append, List.take_append_drop]
    rw [e]
    exact List.mem_append_left _ hp)
   rw [← hL] at hway
   have HR := Lib.hid (And.intro hway (And.intro hlt (And.intro hrow (And.intro hL' (And.intro hLe (And.intro hLn hcell))))))
   clear hk hlt hway hg hh hr hkr hrow hL hL' hLe hLn hcell
   go_upto_region 5 with fail
   go_wp2_with fail
   go_loopw [3, 5] (fun s i W => ∃ j : Nat, j ≤ r.l.length ∧ i = .int .i64 j ∧ OnPut w W s (L ++ (ctT r.l).take j)) (fun _ i _ => r.l.length - (intOf i).toNat)
   case atStart => exact ⟨0, Nat.zero_le _, rfl, by simpa using HR.out.1⟩
   case round =>
    obtain ⟨j, hj, rfl, hway⟩ := hrel
    have c0 := HR.out.2.2.2.2.2.2 _ hway.below
    by_cases hlt : j < r.l.length
    ·
     have n1 : (j : Int) < (r.l.length : Int) := by omega
     have n0 : (0 : Int) ≤ (j : Int) := by omega
     obtain ⟨ga, oa, hpa, hga, hha⟩ := HR.out.2.2.1.2.2 (by omega)
     rw [hpa] at c0
     obtain ⟨a, ha⟩ : ∃ a, a = r.l[j] := ⟨_, rfl⟩
     have hka : r.l[j]? = some a := by rw [ha, List.getElem?_eq_getElem hlt]
     have oka := HR.out.2.2.1.2.1 a (List.mem_of_getElem? hka)
     have hrg := (hha.below hway.below hga) j a hka
     have hnx : (ctT r.l).take (j + 1) = (ctT r.l).take j ++ [(a.nm, a.w)] := ctT_take hka
     have hok : ∀ p, p ∈ (L ++ (ctT r.l).take j) ++ [(a.nm, a.w)] → p.1.1.length = 32 ∧ p.1.2.length ≤ maxLen := fun p hp => HR.out.2.2.2.2.2.1 p (by
      rw [List.append_assoc, ← hnx] at hp
      rcases List.mem_append.1 hp with hp | hp
      ·
       exact List.mem_append_left _ hp
      ·
       exact List.mem_append_right _ (List.mem_of_mem_take hp))
     have hle1 := HR.out.2.2.2.2.1 j hj
     have hle2 := HR.out.2.2.2.2.1 (j + 1) hlt
     rw [hnx, ← List.append_assoc] at hle2
     obtain ⟨Lj, hLj⟩ : ∃ l, l = L ++ (ctT r.l).take j := ⟨_, rfl⟩
     have hLj' : L ++ (ctT r.l).take (j + 1) = Lj ++ [(a.nm, a.w)] := by rw [hLj, hnx, List.append_assoc]
     rw [← hLj] at hway hok hle1 hle2
     obtain ⟨po, co, rfl, hro⟩ := hway.row
     have hput := put_call wr po co Lj a hro oka hle1
     obtain ⟨Lp, hLp⟩ : ∃ l, l = putAll [] Lj := ⟨_, rfl⟩
     rw [← hLp] at hput ⊢
     obtain ⟨ov, hov⟩ : ∃ v, v = toC a := ⟨_, rfl⟩
     rw [← hov] at hput hrg
     have hvs : ov.size = 35 := by rw [hov]; exact toC_size a oka.1
     have HJ := Lib.hid (And.intro hway (And.intro hlt (And.intro hLj' (And.intro hput (And.intro hrg (And.intro hvs (And.intro hok (And.intro hle2 hLp))))))))
     clear hway hlt hLj' hput hrg hvs hok hle2 hle1 hLj hov ha hka oka hha hga hpa hnx hro hj hLp
     go_wp2_with (first
      | (refine wpList_load_mid rfl 75 _ rfl ga (oa + j * 35) rfl ov.toList _ HJ.out.2.2.2.2.1 Tryz.underlying75 rfl (by rw [Array.length_toList, HJ.out.2.2.2.2.2.1]; exact info_total) ?_)
      | fail)
     refine HJ.out.2.2.2.1.mono ?_
     rintro e w2 ⟨⟨v, rfl, hown⟩, hb2⟩
     rw [HJ.out.2.2.2.2.2.2.2.2] at hown
     have hw2 := HJ.out.1.put HJ.out.2.2.2.2.2.2.1 HJ.out.2.2.2.2.2.2.2.1 hown hb2
     have HZ := Lib.hid hw2
     clear hown hb2 hw2 c0
     go_wp2_with fail
     have e1 : (j : Int) + 1 = ((j + 1 : Nat) : Int) := by omega
     rw [e1]
     refine ⟨⟨j + 1, HJ.out.2.1, rfl, by rw [HJ.out.2.2.1]; exact HZ.out⟩, ?_⟩
     have h := HJ.out.2.1
     show r.l.length - (j + 1) < r.l.length - j
     omega
    ·
     have n1 : ¬ (j : Int) < (r.l.length : Int) := by omega
     have HE : Hid (OnPut w wr u3 (L ++ ctT r.l)) := Lib.hid (by
      have e : (ctT r.l).take j = ctT r.l := List.take_of_length_le (by unfold ctT; rw [List.length_map]; omega)
      rw [e] at hway; exact hway)
     clear hway hlt hj
     go_wp2_with fail
     have e1 : (k : Int) + 1 = ((k + 1 : Nat) : Int) := by omega
     rw [e1]
     refine ⟨⟨k + 1, HR.out.2.1, rfl, by rw [HR.out.2.2.2.1]; exact HE.out⟩, ?_⟩
     have h := HR.out.2.1
     show rs.length - (k + 1) < rs.length - k
     omega
  ·
   have m1 : ¬ (k : Int) < (rs.length : Int) := by omega
   have hkk : k = rs.length := by omega
   subst hkk
   rw [List.take_length] at hway
   obtain ⟨po, co, rfl, hro⟩ := hway.row
   have hsm := some_call wr po co (ctM rs) hro H.out.2.1
   obtain ⟨Lp, hLp⟩ : ∃ l, l = putAll [] (ctM rs) := ⟨_, rfl⟩
   rw [← hLp] at hsm ⊢
   have HE := Lib.hid (And.intro hsm hway.below)
   clear hway hlt hk hsm hro hLp
   go_wp2_with fail
   refine HE.out.1.mono ?_
   rintro e w2 ⟨p, l, c', rfl, hr, ht, hf, hb⟩
   have HF := Lib.hid (And.intro hr (And.intro ht (And.intro (fun a ea => Nat.le_trans HE.out.2.size (hf a ea)) (HE.out.2.trans (hb.mono HE.out.2.size)))))
   clear hr ht hf hb
   go_wp2_with fail
   go_ret
   exact ⟨p, l, c', rfl, HF.out.1, HF.out.2.1, HF.out.2.2.1, HF.out.2.2.2⟩
end Go.Proofs.YtjngghihciimjaaGreat
