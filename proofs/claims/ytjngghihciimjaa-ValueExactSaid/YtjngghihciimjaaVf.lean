/-
  How much of an asset is in a bundle?
-/
import Derived.Test.YtjngghihciimjaaVs
namespace Go.Proofs.Ytjngghihciimjaa
set_option maxRecDepth 100000
open Go.RowKit Go.Sort
attribute [-go_sem] Instr.build

/-- How much of what is called n the row has. -/
def amtOf (l : List As) (n : Nm) : Int := match l.find? (fun a => decide (a.nm = n)) with | some a => a.amt | none => 0
theorem amtOf_at {l : List As} {n : Nm} {k : Nat} {a : As} (hk : l[k]? = some a) (ha : a.nm = n) (hno : ∀ (i : Nat) (b : As), i < k → l[i]? = some b → b.nm ≠ n) : amtOf l n = a.amt := by
  unfold amtOf
  have : l.find? (fun a => decide (a.nm = n)) = some a := by
    rw [List.find?_eq_some_iff_getElem]
    obtain ⟨hk', e⟩ := List.getElem?_eq_some_iff.1 hk
    refine ⟨by simp [ha], k, hk', e, fun j hj => ?_⟩
    have := hno j l[j] hj (List.getElem?_eq_getElem (by omega))
    simpa using this
  rw [this]
theorem amtOf_no {l : List As} {n : Nm} (hno : ∀ (i : Nat) (b : As), l[i]? = some b → b.nm ≠ n) : amtOf l n = 0 := by
  unfold amtOf
  have : l.find? (fun a => decide (a.nm = n)) = none := by
    rw [List.find?_eq_none]
    intro a ha
    obtain ⟨i, hi⟩ := List.getElem?_of_mem ha
    simpa using hno i a hi
  rw [this]
set_option maxHeartbeats 4000000 in
theorem of_any (w : World) (x : Int) (pa : Option Addr) (l : List As) (c : Nat) (p t : List UInt8) (h : Row w pa l) (hp : p.length = 32) (ht : t.length ≤ maxLen) :
    Calls Try.prog 12 #[.agg (vC x pa l.length c), .agg (B8 p), .string (txt t)] w fun e w' => e = .returned (.int .i64 (amtOf l (p, t))) ∧ Below w.heap.size w w' := by
  have hli : (l.length : Int) ≤ 9223372036854775807 := by have := h.1; unfold maxLen at this; omega
  obtain ⟨vv, hvv⟩ : ∃ v, v = vC x pa l.length c := ⟨_, rfl⟩
  obtain ⟨pv, hpv⟩ : ∃ v, v = B8 p := ⟨_, rfl⟩
  obtain ⟨tv, htv⟩ : ∃ v, v = txt t := ⟨_, rfl⟩
  obtain ⟨nv, hnv⟩ : ∃ v, v = nmC (p, t) := ⟨_, rfl⟩
  have hps : pv.size = 32 := by rw [hpv, B8_size, hp]
  have hns : nv.size = 33 := by rw [hnv]; exact nmC_size _ hp
  have hn1 : nv.all (·.oneCell') = true := by rw [hnv]; exact nmC_one _
  have hbl : ∀ W, (Instr.build 68 #[(0, .agg pv), (1, .string tv)]).run Try.prog W = .ok (.agg nv) W := fun W => by
    rw [hpv, htv, hnv]
    exact run_build W 68 _ _ (built_called p hp (txt t))
  rw [← hvv, ← hpv, ← htv]
  have H := Lib.hid (And.intro h (And.intro hp (And.intro ht (And.intro hvv (And.intro hpv (And.intro htv (And.intro hnv (And.intro hps (And.intro hns hn1)))))))))
  clear h hp ht hvv hpv htv hnv hps hns hn1
  go_enter Try.func12, Try.ntmps12
  go_upto_region 1 with fail
  have hL1 : Lies ((w.alloc (.cells vv 24)).alloc (.cells pv 26)) w.heap.size vv 24 := (Lies.new _ _ _).alloc _
  have hL2 : Lies ((w.alloc (.cells vv 24)).alloc (.cells pv 26)) (w.heap.size + 1) pv 26 := by
    have := Lies.new (w.alloc (.cells vv 24)) pv 26
    simpa using this
  have hb0 : Below w.heap.size w ((w.alloc (.cells vv 24)).alloc (.cells pv 26)) := ((Below.refl _ _).alloc (Nat.le_refl _) _).alloc (by simp) _
  generalize (w.alloc (.cells vv 24)).alloc (.cells pv 26) = W1 at hL1 hL2 hb0 ⊢
  have H1 := Lib.hid (And.intro hL1 (And.intro hL2 hb0))
  clear hL1 hL2 hb0
  go_upto_region 2 with (first
    | (refine wpList_load_row rfl 26 _ rfl (w.heap.size + 1) rfl 26 pv (0, 0) _ H1.out.2.1 Try.underlying26 rfl (by rw [H.out.2.2.2.2.2.2.2.1]; exact info_hash) ?_)
    | (refine wpList_store_row rfl 68 _ _ rfl W1.heap.size nv rfl rfl 68 z33 (Lies.new _ z33 68) (by rw [H.out.2.2.2.2.2.2.2.2.1]; exact info_called) (by rw [H.out.2.2.2.2.2.2.2.2.1]; kernel_rfl) H.out.2.2.2.2.2.2.2.2.2 ?_))
  rw [World.setRow_alloc_new]
  obtain ⟨g2, hg2⟩ : ∃ g, g = W1.heap.size := ⟨_, rfl⟩
  have hL3 : Lies (W1.alloc (.cells nv 68)) g2 nv 68 := by rw [hg2]; exact Lies.new _ _ _
  have hL4 : Lies (W1.alloc (.cells nv 68)) w.heap.size vv 24 := H1.out.1.alloc _
  have hb2 : Below w.heap.size w (W1.alloc (.cells nv 68)) := H1.out.2.2.alloc H1.out.2.2.size _
  rw [← hg2]
  generalize W1.alloc (.cells nv 68) = W2 at hL3 hL4 hb2 ⊢
  have c1 := hL4.cell 1 (v := .slice pa l.length c) (by rw [H.out.2.2.2.1]; rfl)
  have H2 := Lib.hid (And.intro hL3 hb2)
  clear hL3 hL4 hb2 hg2 H1
  go_upto_region 3 with fail
  clear c1
  go_loopw [16] (fun i W => ∃ k : Nat, k ≤ l.length ∧ i = .int .i64 k ∧ Below W2.heap.size W2 W ∧ ∀ (i : Nat) (b : As), i < k → l[i]? = some b → b.nm ≠ (p, t)) (fun i _ => l.length - (intOf i).toNat)
  case atStart => exact ⟨0, Nat.zero_le _, rfl, Below.refl _ _, fun i b hi => absurd hi (by omega)⟩
  case round =>
    obtain ⟨k, hk, rfl, hb, hall⟩ := hrel
    have hbw : Below w.heap.size w wr := H2.out.2.trans (hb.mono H2.out.2.size)
    by_cases hlt : k < l.length
    · have m1 : (k : Int) < (l.length : Int) := by omega
      have m0 : (0 : Int) ≤ (k : Int) := by omega
      obtain ⟨g, off, rfl, hg, hh⟩ := H.out.1.2.2 (by omega)
      obtain ⟨a, ha⟩ : ∃ a, a = l[k] := ⟨_, rfl⟩
      have hka : l[k]? = some a := by rw [ha, List.getElem?_eq_getElem hlt]
      have oka := H.out.1.2.1 a (List.mem_of_getElem? hka)
      have hrg := (hh.below hbw hg) k a hka
      obtain ⟨va, hva⟩ : ∃ v, v = asC a := ⟨_, rfl⟩
      obtain ⟨na, hna⟩ : ∃ v, v = nmC a.nm := ⟨_, rfl⟩
      have hvs : va.size = 34 := by rw [hva]; exact asC_size a oka.1
      have hv1 : va.all (·.oneCell') = true := by rw [hva]; exact asC_one a
      have h33 : va[33]? = some (.int .i64 a.amt) := by rw [hva]; exact asC_amt a oka.1
      rw [← hva] at hrg
      have heq : ∀ W, (Op.equalIn 10000 68 (.agg na) (.agg nv)).run Try.prog W = .ok (decide (a.nm = (p, t))) W := fun W => by
        rw [hna, H.out.2.2.2.2.2.2.1]
        exact eq_nm W a.nm (p, t) oka.1 H.out.2.1 oka.2.1 H.out.2.2.1
      have hcall : ∀ W, Calls Try.prog 29 #[.agg va] W fun e w' => e = .returned (.agg na) ∧ Below W.heap.size W w' := fun W => by
        rw [hva, hna]; exact callAsset_any W a oka.1
      have HI := Lib.hid (And.intro (show (Try.prog.info? 54).map (·.size) = some va.size by rw [hvs]; exact info_asset) (And.intro (show (Try.prog.info? 68).map (·.size) = some nv.size by rw [H.out.2.2.2.2.2.2.2.2.1]; exact info_called) hcall))
      have HR := Lib.hid (And.intro hb (And.intro hall (And.intro hlt (And.intro hka (And.intro hvs (And.intro hv1 h33))))))
      have HRG := Lib.hid hrg
      clear hb hall hlt hk ha hka oka hva hna hvs hv1 h33 hh hg hrg hcall
      go_upto_region 5 with (first
        | (refine wpList_load_mid rfl 54 _ rfl g (off + k * 34) rfl va.toList _ HRG.out Try.underlying54 rfl (by rw [Array.length_toList]; exact HI.out.1) ?_)
        | (refine wpList_store_row rfl 54 _ _ rfl wr.heap.size va rfl rfl 54 z34 (Lies.new wr z34 54) HI.out.1 (by rw [HR.out.2.2.2.2.1]; kernel_rfl) HR.out.2.2.2.2.2.1 ?_))
      rw [World.setRow_alloc_new]
      have hL5 : Lies (wr.alloc (.cells va 54)) wr.heap.size va 54 := Lies.new _ _ _
      have hL6 : Lies (wr.alloc (.cells va 54)) g2 nv 68 := (H2.out.1.below HR.out.1 H2.out.1.lt).alloc _
      have hb3 : Below W2.heap.size W2 (wr.alloc (.cells va 54)) := HR.out.1.alloc HR.out.1.size _
      generalize wr.alloc (.cells va 54) = W3 at hL5 hL6 hb3 ⊢
      have HS5 : Hid (∀ V, Below W3.heap.size W3 V → Lies V wr.heap.size va 54 ∧ Lies V g2 nv 68) := Lib.hid fun V hV => ⟨hL5.below hV hL5.lt, hL6.below hV hL6.lt⟩
      have H3 := Lib.hid hb3
      clear hL5 hL6 hb3
      refine wp_region_noPanic (wp_region_held (S := fun V => Lies V wr.heap.size va 54 ∧ Lies V g2 nv 68) (by kernel_rfl) ?_)
      change wpAnyH _ _ _ _ _ 4 _ _ (World.drew W3)
      have hbd : Below W3.heap.size W3 W3.drew := (Below.refl _ _).drew
      have hcur := HS5.out _ hbd
      by_cases hnm : a.nm = (p, t)
      · have hd : decide (a.nm = (p, t)) = true := by simp [hnm]
        have HV := Lib.hid (amtOf_at HR.out.2.2.2.1 hnm HR.out.2.1)
        clear hnm
        refine held_take (i := 0) (v := (.agg va)) rfl 20 rfl (by kernel_rfl) (by kernel_rfl) (by kernel_rfl) (fun _ _ _ h => h) (by rfl) (by intro w' hS'; exact exec_loadM 54 _ rfl _ _ rfl va (range_lies hS'.1) Try.underlying54 rfl HI.out.1) hcur _ rfl ?_
        simp only [Act.put, List.setIfInBounds_toArray, List.set_cons_zero, List.set_cons_succ]
        refine held_take (i := 2) (v := (.agg nv)) rfl 22 rfl (by kernel_rfl) (by kernel_rfl) (by kernel_rfl) (fun _ _ _ h => h) (by rfl) (by intro w' hS'; exact exec_loadM 68 _ rfl _ _ rfl nv (range_lies hS'.2) Try.underlying68 rfl HI.out.2.1) hcur _ rfl ?_
        simp only [Act.put, List.setIfInBounds_toArray, List.set_cons_zero, List.set_cons_succ]
        refine held_one (i := 1) (by kernel_rfl) _ rfl (wpOp_callG rfl (by rfl) 21 rfl 29 #[.agg va] (by unfold execOp; simp [go_sem]) _ (ret_of (HI.out.2.2 _)) ?_)
        rintro v1 w5 ⟨rfl, hb5⟩
        have hb5w := hbd.trans (hb5.mono hbd.size)
        have hcur := HS5.out _ hb5w
        refine ⟨hcur, ?_⟩
        simp only [Act.put, List.setIfInBounds_toArray, List.set_cons_zero, List.set_cons_succ]
        refine held_take (i := 3) (v := (.bool true)) rfl 23 rfl (by kernel_rfl) (by kernel_rfl) (by kernel_rfl) (fun _ _ _ h => h) (by rfl) (by intro w' hS'; unfold execOp; simp [go_sem, heq, hd]) hcur _ rfl ?_
        simp only [Act.put, List.setIfInBounds_toArray, List.set_cons_zero, List.set_cons_succ]
        refine wpAnyH_done (by kernel_rfl) ?_ _
        unfold NoPanic
        dsimp only
        have HB5 := Lib.hid hb5w
        clear hcur heq hd hb5 hb5w hbd
        have c33 := (HS5.out _ HB5.out).1.cell 33 HR.out.2.2.2.2.2.2
        go_wp2_with fail
        go_ret
        refine ⟨?_, H2.out.2.trans ((H3.out.trans (HB5.out.mono H3.out.size)).mono H2.out.2.size)⟩
        rw [HV.out]
        rfl
      · have hd : decide (a.nm = (p, t)) = false := by simp [hnm]
        have HV := Lib.hid (show ∀ (i : Nat) (b : As), i < k + 1 → l[i]? = some b → b.nm ≠ (p, t) from fun i b hi hb => by
          by_cases e : i = k
          · subst e
            have h1 := HR.out.2.2.2.1
            rw [hb] at h1
            rw [Option.some.inj h1]
            exact hnm
          · exact HR.out.2.1 i b (by omega) hb)
        clear hnm
        refine held_take (i := 0) (v := (.agg va)) rfl 20 rfl (by kernel_rfl) (by kernel_rfl) (by kernel_rfl) (fun _ _ _ h => h) (by rfl) (by intro w' hS'; exact exec_loadM 54 _ rfl _ _ rfl va (range_lies hS'.1) Try.underlying54 rfl HI.out.1) hcur _ rfl ?_
        simp only [Act.put, List.setIfInBounds_toArray, List.set_cons_zero, List.set_cons_succ]
        refine held_take (i := 2) (v := (.agg nv)) rfl 22 rfl (by kernel_rfl) (by kernel_rfl) (by kernel_rfl) (fun _ _ _ h => h) (by rfl) (by intro w' hS'; exact exec_loadM 68 _ rfl _ _ rfl nv (range_lies hS'.2) Try.underlying68 rfl HI.out.2.1) hcur _ rfl ?_
        simp only [Act.put, List.setIfInBounds_toArray, List.set_cons_zero, List.set_cons_succ]
        refine held_one (i := 1) (by kernel_rfl) _ rfl (wpOp_callG rfl (by rfl) 21 rfl 29 #[.agg va] (by unfold execOp; simp [go_sem]) _ (ret_of (HI.out.2.2 _)) ?_)
        rintro v1 w5 ⟨rfl, hb5⟩
        have hb5w := hbd.trans (hb5.mono hbd.size)
        have hcur := HS5.out _ hb5w
        refine ⟨hcur, ?_⟩
        simp only [Act.put, List.setIfInBounds_toArray, List.set_cons_zero, List.set_cons_succ]
        refine held_take (i := 3) (v := (.bool false)) rfl 23 rfl (by kernel_rfl) (by kernel_rfl) (by kernel_rfl) (fun _ _ _ h => h) (by rfl) (by intro w' hS'; unfold execOp; simp [go_sem, heq, hd]) hcur _ rfl ?_
        simp only [Act.put, List.setIfInBounds_toArray, List.set_cons_zero, List.set_cons_succ]
        refine wpAnyH_done (by kernel_rfl) ?_ _
        unfold NoPanic
        dsimp only
        have HB5 := Lib.hid hb5w
        clear hcur heq hd hb5 hb5w hbd
        go_wp2_with fail
        have e1 : (k : Int) + 1 = ((k + 1 : Nat) : Int) := by omega
        rw [e1]
        refine ⟨⟨k + 1, HR.out.2.2.1, rfl, H3.out.trans (HB5.out.mono H3.out.size), HV.out⟩, ?_⟩
        have h := HR.out.2.2.1
        show l.length - (k + 1) < l.length - k
        omega
    · have HF := Lib.hid (And.intro hbw (amtOf_no (n := (p, t)) (fun i b hi => hall i b (by have := (List.getElem?_eq_some_iff.1 hi).1; omega) hi)))
      have m1 : ¬ (k : Int) < (l.length : Int) := by omega
      clear hb hall hk hlt hbw
      go_wp2_with fail
      go_ret
      refine ⟨?_, HF.out.1⟩
      rw [HF.out.2]
      rfl
end Go.Proofs.Ytjngghihciimjaa
