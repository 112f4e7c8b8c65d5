/-
  Merge: the totals of rows of totals.
-/
import Derived.Test.YtjngghihciimjaaVsu
import Derived.Test.YtjngghihciimjaaVst
import Derived.Test.YtjngghihciimjaaVto
namespace Go.Proofs.Ytjngghihciimjaa
set_option maxRecDepth 100000
open Go.RowKit Go.Sort Go.Maps

/-- A row of totals: where, which, its room. -/
structure Tr where
  pa : Option Addr
  l : List To
  c : Nat
def RowRT (w : World) (pa : Option Addr) (rs : List Tr) : Prop := rs.length ≤ maxLen ∧ (0 < rs.length → ∃ g off, pa = some ⟨g, off, none⟩ ∧ g < w.heap.size ∧ ∀ (i : Nat) (r : Tr), rs[i]? = some r → w.cell? ⟨g, off + i, none⟩ = some (.slice r.pa r.l.length r.c) ∧ RowT w r.pa r.l)
def ctM (rs : List Tr) : List Ct := rs.flatMap fun r => ctT r.l
theorem ctM_take {rs : List Tr} {k : Nat} {r : Tr} (h : rs[k]? = some r) : ctM (rs.take (k + 1)) = ctM (rs.take k) ++ ctT r.l := by
  unfold ctM
  rw [List.take_add_one, h, List.flatMap_append]
  simp
theorem ctT_take {l : List To} {j : Nat} {a : To} (h : l[j]? = some a) : (ctT l).take (j + 1) = (ctT l).take j ++ [(a.nm, a.w)] := by
  unfold ctT
  rw [List.take_add_one, List.getElem?_map, h]
  rfl
theorem ctM_le {rs : List Tr} {k : Nat} {r : Tr} {j : Nat} (h : rs[k]? = some r) (hj : j ≤ r.l.length) : (ctM (rs.take k) ++ (ctT r.l).take j).length ≤ (ctM rs).length := by
  have h1 : ctM rs = ctM (rs.take (k + 1)) ++ ctM (rs.drop (k + 1)) := by
    unfold ctM
    rw [← List.flatMap_append, List.take_append_drop]
  rw [h1, ctM_take h]
  simp [ctT]
  omega
/-- A world on Merge's way. -/
structure OnMg (w W : World) (L : List Ct) : Prop where
  below : Below w.heap.size w W
  map : ∃ D, W.ownsMap Try.prog 68 rdW w.heap.size L.length D ∧ HoldsF D (sumAt L)
theorem OnMg.step {w W W' : World} {L : List Ct} (h : OnMg w W L) (hb : Below W.heap.size W W') : OnMg w W' L := by
  obtain ⟨D, h1, h2⟩ := h.map
  exact ⟨h.below.trans (hb.mono h.below.size), ⟨D, h1.kept (grown_of (r := none) hb) (by simp), h2⟩⟩
theorem OnMg.put {w W W' : World} {L : List Ct} (h : OnMg w W L) {D : DataW Unit} (hf : HoldsF D (sumAt L)) (hD : IsMap D) (n : Nm) (x : BitVec 128) (hn : n.1.length = 32) (ht : n.2.length ≤ maxLen)
    (hp : PutW W W' w.heap.size (L.length + 1) (D.put (kN n) (dW (sumAt L n + x)))) : OnMg w W' (L ++ [(n, x)]) := by
  obtain ⟨h1, h2⟩ := hp
  have hb : Below w.heap.size w W' := h.below.trans ⟨h2.os, h2.tape, h2.output, h2.size, fun i hi => h2.block i (Nat.lt_of_lt_of_le hi h.below.size) (by simp; omega)⟩
  refine ⟨hb, ⟨D.put (kN n) (dW (sumAt L n + x)), ?_, ?_⟩⟩
  · rw [List.length_append]; exact h1
  · rw [← addAt_sumAt]; exact hf.put hD n x hn ht
def MergeRes (rs : List Tr) (w' : World) (e : Ending) : Prop := ∃ p l c', e = .returned (.slice p l.length c') ∧ RowT w' p l ∧ IsTot (sumAt (ctM rs)) (ctT l)
set_option maxHeartbeats 4000000 in
theorem merge_any (w : World) (pa : Option Addr) (rs : List Tr) (c : Nat) (h : RowRT w pa rs) (hc : (ctM rs).length ≤ 1000000) (hnm : ∀ p, p ∈ ctM rs → p.1.1.length = 32 ∧ p.1.2.length ≤ 281474976710656) :
    Calls Try.prog 16 #[.slice pa rs.length c] w fun e w' => MergeRes rs w' e ∧ Below w.heap.size w w' := by
  have hli : (rs.length : Int) ≤ 9223372036854775807 := by have := h.1; unfold maxLen at this; omega
  have H := Lib.hid (And.intro h (And.intro hc hnm))
  clear h hc hnm
  have hmk := fun W => run_makeMap (P := Try.prog) 70 W
  go_enter Try.func16, Try.ntmps16
  go_upto_region 3 with fail
  have hway : OnMg w (w.alloc (.map #[] 0)) (ctM (rs.take 0)) := ⟨(Below.refl _ _).alloc (Nat.le_refl _) _, ⟨.map [], World.ownsMap_made (H := Unit) w Try.prog 68 rdW, HoldsF.none⟩⟩
  clear hmk
  generalize w.alloc (.map #[] 0) = W1 at hway ⊢
  have HW := Lib.hid hway
  clear hway
  go_loopw [11] (fun i W => ∃ k : Nat, k ≤ rs.length ∧ i = .int .i64 k ∧ OnMg w W (ctM (rs.take k))) (fun i _ => rs.length - (intOf i).toNat)
  case atStart => exact ⟨0, Nat.zero_le _, rfl, HW.out⟩
  case round =>
    clear HW
    obtain ⟨k, hk, rfl, hway⟩ := hrel
    by_cases hlt : k < rs.length
    · have m1 : (k : Int) < (rs.length : Int) := by omega
      have m0 : (0 : Int) ≤ (k : Int) := by omega
      obtain ⟨g, off, rfl, hg, hh⟩ := H.out.1.2 (by omega)
      obtain ⟨r, hr⟩ : ∃ r, r = rs[k] := ⟨_, rfl⟩
      have hkr : rs[k]? = some r := by rw [hr, List.getElem?_eq_getElem hlt]
      obtain ⟨pr, hpr⟩ : ∃ p, p = r.pa := ⟨_, rfl⟩
      have c0 := (hway.below.cell (p := ⟨g, off + k, none⟩) hg).trans (hh k r hkr).1
      rw [← hpr] at c0
      have hrow := (hh k r hkr).2
      have hvl : (r.l.length : Int) ≤ 9223372036854775807 := by have := hrow.1; unfold maxLen at this; omega
      obtain ⟨L, hL⟩ : ∃ L, L = ctM (rs.take k) := ⟨_, rfl⟩
      have hL' : ctM (rs.take (k + 1)) = L ++ ctT r.l := by rw [hL]; exact ctM_take hkr
      have hLe : ∀ j, j ≤ r.l.length → (L ++ (ctT r.l).take j).length ≤ (ctM rs).length := fun j hj => by rw [hL]; exact ctM_le hkr hj
      rw [← hL] at hway
      have HR := Lib.hid (And.intro hway (And.intro hlt (And.intro hrow (And.intro hL' (And.intro hLe hpr)))))
      clear hk hlt hway hg hh hr hkr hrow hL hL' hLe hpr
      go_upto_region 6 with fail
      go_loopw [17] (fun i W => ∃ j : Nat, j ≤ r.l.length ∧ i = .int .i64 j ∧ OnMg w W (L ++ (ctT r.l).take j)) (fun i _ => r.l.length - (intOf i).toNat)
      case atStart => exact ⟨0, Nat.zero_le _, rfl, by simpa using HR.out.1⟩
      case round =>
          obtain ⟨j, hj, rfl, hway⟩ := hrel
          by_cases hlt : j < r.l.length
          · have n1 : (j : Int) < (r.l.length : Int) := by omega
            have n0 : (0 : Int) ≤ (j : Int) := by omega
            obtain ⟨ga, oa, hpa, hga, hha⟩ := HR.out.2.2.1.2.2 (by omega)
            rw [← HR.out.2.2.2.2.2] at hpa
            subst hpa
            obtain ⟨a, ha⟩ : ∃ a, a = r.l[j] := ⟨_, rfl⟩
            have hka : r.l[j]? = some a := by rw [ha, List.getElem?_eq_getElem hlt]
            have oka := HR.out.2.2.1.2.1 a (List.mem_of_getElem? hka)
            have hrg := (hha.below hway.below hga) j a hka
            obtain ⟨ov, hov⟩ : ∃ v, v = toC a := ⟨_, rfl⟩
            obtain ⟨na, hna⟩ : ∃ v, v = nmC a.nm := ⟨_, rfl⟩
            have hvs : ov.size = 35 := by rw [hov]; exact toC_size a oka.1
            have hv1 : ov.all (·.oneCell') = true := by rw [hov]; exact toC_one a
            have hwd : ∀ (U : World) (b : Nat), Lies U b ov 48 → U.rangeAt b 33 (#[Value.int .i64 (hiS a.w), .int .u64 (loN a.w)] : Array Value).toList := fun U b hU j v hv => by
              rw [hov] at hU
              have hj : j = 0 ∨ j = 1 := by have := (List.getElem?_eq_some_iff.1 hv).1; simp at this; omega
              rcases hj with rfl | rfl
              · simp at hv; subst hv; exact hU.cell 33 (toC_hi a oka.1)
              · simp at hv; subst hv; exact hU.cell 34 (toC_lo a oka.1)
            rw [← hov] at hrg
            have hcall : ∀ W, Calls Try.prog 36 #[.agg ov] W fun e w' => e = .returned (.agg na) ∧ Below W.heap.size W w' := fun W => by
              rw [hov, hna]; exact callTotal_any W a oka.1
            obtain ⟨Lj, hLj⟩ : ∃ l, l = L ++ (ctT r.l).take j := ⟨_, rfl⟩
            have hLj' : L ++ (ctT r.l).take (j + 1) = Lj ++ [(a.nm, a.w)] := by rw [hLj, ctT_take hka, List.append_assoc]
            have hLl : Lj.length < maxLen := by rw [hLj]; exact Nat.lt_of_le_of_lt (Nat.le_trans (HR.out.2.2.2.2.1 j hj) H.out.2.1) (by decide)
            rw [← hLj] at hway
            have hput : ∀ W D, W.ownsMap Try.prog 68 rdW w.heap.size Lj.length D → HoldsF D (sumAt Lj) → Calls Try.prog 33 #[.map (some w.heap.size), .agg na, .agg #[.int .i64 (hiS a.w), .int .u64 (loN a.w)]] W fun e w' => e = .returned (.tuple #[]) ∧ PutW W w' w.heap.size (Lj.length + 1) (D.put (kN a.nm) (dW (sumAt Lj a.nm + a.w))) := fun W D h1 h2 => by
              rw [hna]; exact put_any W w.heap.size Lj.length D (sumAt Lj) a.nm a.w h1 h2 hLl oka.1 oka.2
            have HI := Lib.hid (And.intro (show (Try.prog.info? 48).map (·.size) = some ov.size by rw [hvs]; exact info_total) (And.intro hcall (And.intro hwd hput)))
            have HJ := Lib.hid (And.intro hway (And.intro hlt (And.intro hLj' (And.intro oka (And.intro hvs hv1)))))
            have HRG := Lib.hid hrg
            clear hway hlt hj ha hka oka hov hna hvs hv1 hha hga hrg hcall hwd hput hLj hLj' hLl
            go_upto_region 8 with (first
              | (refine wpList_load_mid rfl 48 _ rfl ga (oa + j * 35) rfl ov.toList _ HRG.out Try.underlying48 rfl (by rw [Array.length_toList]; exact HI.out.1) ?_)
              | (refine wpList_store_row rfl 48 _ _ rfl wr.heap.size ov rfl rfl 48 z35 (Lies.new wr z35 48) HI.out.1 (by rw [HJ.out.2.2.2.2.1]; kernel_rfl) HJ.out.2.2.2.2.2 ?_))
            rw [World.setRow_alloc_new]
            obtain ⟨b9, hb9⟩ : ∃ b, b = wr.heap.size := ⟨_, rfl⟩
            have hL9 : Lies (wr.alloc (.cells ov 48)) b9 ov 48 := by rw [hb9]; exact Lies.new _ _ _
            have hw9 : OnMg w (wr.alloc (.cells ov 48)) Lj := HJ.out.1.step ((Below.refl _ _).alloc (Nat.le_refl _) _)
            have hfar : w.heap.size < b9 := by
              rw [hb9]
              obtain ⟨D, hD, _⟩ := HJ.out.1.map
              exact hD.lt
            rw [← hb9]
            generalize wr.alloc (.cells ov 48) = W9 at hL9 hw9 ⊢
            have HS9 : Hid (∀ U, Below W9.heap.size W9 U → Lies U b9 ov 48) := Lib.hid fun U hU => hL9.below hU hL9.lt
            have HW9 := Lib.hid hw9
            clear hL9 hw9 hb9
            refine wp_region_noPanic (wp_region_held (S := fun U => Lies U b9 ov 48) (by kernel_rfl) ?_)
            change wpAnyH _ _ _ _ _ 6 _ _ (World.drew W9)
            have hbd : Below W9.heap.size W9 W9.drew := (Below.refl _ _).drew
            generalize World.drew W9 = wd9 at hbd ⊢
            have hcur := HS9.out _ hbd
            refine held_take (i := 0) (v := (.map (some w.heap.size))) rfl 21 rfl (by kernel_rfl) (by kernel_rfl) (by kernel_rfl) (fun _ _ _ h => h) (by rfl) (by intro w' hS'; unfold execOp; simp [go_sem]) hcur _ rfl ?_
            simp only [Act.put, List.setIfInBounds_toArray, List.set_cons_zero, List.set_cons_succ]
            refine held_take (i := 1) (v := (.agg ov)) rfl 22 rfl (by kernel_rfl) (by kernel_rfl) (by kernel_rfl) (fun _ _ _ h => h) (by rfl) (by intro w' hS'; exact exec_loadM 48 _ rfl _ _ rfl ov (range_lies hS') Try.underlying48 rfl HI.out.1) hcur _ rfl ?_
            simp only [Act.put, List.setIfInBounds_toArray, List.set_cons_zero, List.set_cons_succ]
            refine held_take (i := 3) (v := (.pointer (some ⟨b9, 33, none⟩))) rfl 24 rfl (by kernel_rfl) (by kernel_rfl) (by kernel_rfl) (fun _ _ _ h => h) (by rfl) (by intro w' hS'; unfold execOp; simp [go_sem]) hcur _ rfl ?_
            simp only [Act.put, List.setIfInBounds_toArray, List.set_cons_zero, List.set_cons_succ]
            refine held_take (i := 4) (v := (.agg #[.int .i64 (hiS a.w), .int .u64 (loN a.w)])) rfl 25 rfl (by kernel_rfl) (by kernel_rfl) (by kernel_rfl) (fun _ _ _ h => h) (by rfl) (by intro w' hS'; exact exec_loadM 39 _ rfl _ _ rfl #[.int .i64 (hiS a.w), .int .u64 (loN a.w)] (HI.out.2.2.1 _ _ hS') Try.underlying39 rfl info_wide) hcur _ rfl ?_
            simp only [Act.put, List.setIfInBounds_toArray, List.set_cons_zero, List.set_cons_succ]
            refine held_one (i := 2) (by kernel_rfl) _ rfl (wpOp_callG rfl (by rfl) 23 rfl 36 #[.agg ov] (by unfold execOp; simp [go_sem]) _ (ret_of (HI.out.2.1 _)) ?_)
            rintro v1 w1 ⟨rfl, hb1⟩
            have hc1 := hbd.trans (hb1.mono hbd.size)
            have hcur := HS9.out _ hc1
            refine ⟨hcur, ?_⟩
            simp only [Act.put, List.setIfInBounds_toArray, List.set_cons_zero, List.set_cons_succ]
            have hw2 := HW9.out.step hc1
            obtain ⟨D, hD, hDf⟩ := hw2.map
            refine held_one (i := 5) (by kernel_rfl) _ rfl (wpOp_callG rfl (by rfl) 26 rfl 33 #[.map (some w.heap.size), .agg na, .agg #[.int .i64 (hiS a.w), .int .u64 (loN a.w)]] (by unfold execOp; simp [go_sem]) _ (ret_gro (HI.out.2.2.2 w1 D hD hDf)) ?_)
            rintro v3 w3 ⟨rfl, hp3⟩
            have hS3 : Lies w3 b9 ov 48 := lies_grown hp3.2 hcur (by simp; omega)
            refine ⟨hS3, ?_⟩
            simp only [Act.put, List.setIfInBounds_toArray, List.set_cons_zero, List.set_cons_succ]
            have hw3 : OnMg w w3 (Lj ++ [(a.nm, a.w)]) := hw2.put hDf hD.isMap a.nm a.w HJ.out.2.2.2.1.1 HJ.out.2.2.2.1.2 hp3
            have HE := Lib.hid hw3
            clear hw3 hw2 hD hDf hp3 hS3 hcur hc1 hb1 hbd
            refine wpAnyH_done (by kernel_rfl) ?_ _
            unfold NoPanic
            dsimp only
            go_wp2_with fail
            have e1 : (j : Int) + 1 = ((j + 1 : Nat) : Int) := by omega
            rw [e1]
            refine ⟨⟨j + 1, HJ.out.2.1, rfl, by rw [HJ.out.2.2.1]; exact HE.out⟩, ?_⟩
            have h := HJ.out.2.1
            show r.l.length - (j + 1) < r.l.length - j
            omega
          · have n1 : ¬ (j : Int) < (r.l.length : Int) := by omega
            have HE : Hid (OnMg w wr (L ++ ctT r.l)) := Lib.hid (by
              have e : (ctT r.l).take j = ctT r.l := List.take_of_length_le (by unfold ctT; rw [List.length_map]; omega)
              rw [e] at hway; exact hway)
            clear hway hlt hj
            go_wp2_with fail
            have e1 : (k : Int) + 1 = ((k + 1 : Nat) : Int) := by omega
            rw [e1]
            refine ⟨⟨k + 1, HR.out.2.1, rfl, by rw [HR.out.2.2.2.1]; exact HE.out⟩, ?_⟩
            have h := HR.out.2.1
            show rs.length - (k + 1) < rs.length - k
            omega
    · have m1 : ¬ (k : Int) < (rs.length : Int) := by omega
      have hkk : k = rs.length := by omega
      subst hkk
      rw [List.take_length] at hway
      obtain ⟨D, hD, hDf⟩ := hway.map
      have htot := totals_any wr w.heap.size _ D _ hD hDf H.out.2.1 (fun m hm => by
        obtain ⟨p, hp, e⟩ := sumAt_mem hm
        rw [← e]
        exact H.out.2.2 p hp)
      have HE := Lib.hid (And.intro htot hway.below)
      clear hway hlt hk hD hDf htot
      go_wp2_with fail
      refine HE.out.1.mono ?_
      rintro e w2 ⟨p, l, c', rfl, hr, ht, hb, hfr⟩
      have HF := Lib.hid (And.intro hr (And.intro ht (HE.out.2.trans (hb.mono HE.out.2.size))))
      clear hr ht hb hfr
      go_wp2_with fail
      go_ret
      exact ⟨⟨p, l, c', rfl, HF.out.1, HF.out.2.1⟩, HF.out.2.2⟩
end Go.Proofs.Ytjngghihciimjaa
