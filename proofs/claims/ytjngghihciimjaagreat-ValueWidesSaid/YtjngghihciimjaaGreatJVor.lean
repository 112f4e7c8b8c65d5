/-
  The sums of bundles: the walk.
  A region whose order Go leaves open, whose last operations write where its first ones read: what is read first may be taken first, if the writers wait for it.
-/
import Derived.Test.YtjngghihciimjaaGreatJVj
import Derived.Test.YtjngghihciimjaaGreatJVe
namespace Go.Proofs.YtjngghihciimjaaGreat
set_option maxRecDepth 100000
open Go.RowKit Go.Sort Go.Maps

set_option maxHeartbeats 4000000 in
theorem sumsR_any (hT : TotalsAt) (w : World) (pa : Option Addr) (vs : List Va) (c : Nat) (h : RowV w pa vs) (hc : (ctsL vs).length ≤ 1000000) (hnm : ∀ p, p ∈ ctsL vs → p.1.1.length = 32 ∧ p.1.2.length ≤ 281474976710656) :
    Calls Tryz.prog 26 #[.slice pa vs.length c] w fun e w' => SumsResR vs w.heap.size w' e ∧ Below w.heap.size w w' := by
  have hli : (vs.length : Int) ≤ 9223372036854775807 := by have := h.1; unfold maxLen at this; omega
  have H := Lib.hid (And.intro h hc)
  have HNM := Lib.hid hnm
  have HT := Lib.hid hT
  clear h hc hT hnm
  have hmk := fun W => run_makeMap (P := Tryz.prog) 121 W
  go_enter Tryz.func26, Tryz.ntmps26
  go_upto_region 3 with fail
  have hway : OnWay w (((w.alloc (.cells #[.int .i64 0, .int .u64 0] 48)).alloc (.map #[] 0)).alloc (.cells #[.int .i64 0, .int .u64 0] 48)) (coinS (vs.take 0)) (ctsL (vs.take 0)) := by
    have e1 : (w.alloc (.cells #[.int .i64 0, .int .u64 0] 48)).heap.size = w.heap.size + 1 := by simp
    have e2 : ((w.alloc (.cells #[.int .i64 0, .int .u64 0] 48)).alloc (.map #[] 0)).heap.size = w.heap.size + 1 + 1 := by simp
    refine ⟨(((Below.refl _ _).alloc (Nat.le_refl _) _).alloc (by omega) _).alloc (by omega) _, ((Lies.new _ _ _).alloc _).alloc _, ⟨.map [], ?_, HoldsF.none⟩, ?_⟩
    · have := (World.ownsMap_made (H := Unit) (w.alloc (.cells #[.int .i64 0, .int .u64 0] 48)) Tryz.prog 86 rdW).alloc (.cells #[.int .i64 0, .int .u64 0] 48)
      rw [e1] at this
      exact this
    · have := Lies.new ((w.alloc (.cells #[.int .i64 0, .int .u64 0] 48)).alloc (.map #[] 0)) #[.int .i64 0, .int .u64 0] 48
      rw [e2] at this
      rw [show wC (coinS (vs.take 0)) = #[.int .i64 0, .int .u64 0] from wC_zero]
      exact this
  clear hmk
  generalize (((w.alloc (.cells #[.int .i64 0, .int .u64 0] 48)).alloc (.map #[] 0)).alloc (.cells #[.int .i64 0, .int .u64 0] 48)) = W1 at hway ⊢
  have HW := Lib.hid hway
  clear hway
  go_loopw [14] (fun i W => ∃ k : Nat, k ≤ vs.length ∧ i = .int .i64 k ∧ OnWay w W (coinS (vs.take k)) (ctsL (vs.take k))) (fun i _ => vs.length - (intOf i).toNat)
  case atStart => exact ⟨0, Nat.zero_le _, rfl, HW.out⟩
  case round =>
    clear HW
    obtain ⟨k, hk, rfl, hway⟩ := hrel
    by_cases hlt : k < vs.length
    · have m1 : (k : Int) < (vs.length : Int) := by omega
      have m0 : (0 : Int) ≤ (k : Int) := by omega
      obtain ⟨g, off, rfl, hg, hh⟩ := H.out.1.2 (by omega)
      obtain ⟨v, hv⟩ : ∃ v, v = vs[k] := ⟨_, rfl⟩
      have hkv : vs[k]? = some v := by rw [hv, List.getElem?_eq_getElem hlt]
      have hvv := hh.below hway.below hg (Nat.le_refl _) k v hkv
      have hv0 := (hh k v hkv).2
      have c0 := hvv.1 0 (.int .i64 v.coin) rfl
      have c1 := hvv.1 1 (.slice v.pa v.l.length v.c) rfl
      rw [Nat.add_zero] at c0
      obtain ⟨s, hs⟩ : ∃ s, s = coinS (vs.take k) := ⟨_, rfl⟩
      obtain ⟨L, hL⟩ : ∃ L, L = ctsL (vs.take k) := ⟨_, rfl⟩
      have hs' : coinS (vs.take (k + 1)) = s + wide v.coin := by rw [hs]; exact coinS_take hkv
      have hL' : ctsL (vs.take (k + 1)) = L ++ ctsOf v := by rw [hL]; exact ctsL_take hkv
      have hLe : ∀ j, j ≤ v.l.length → (L ++ (ctsOf v).take j).length ≤ (ctsL vs).length := fun j hj => by rw [hL]; exact ctsL_le hkv hj
      rw [← hs, ← hL] at hway
      have HR := Lib.hid (And.intro hway (And.intro hlt (And.intro hv0 (And.intro hs' (And.intro hL' hLe)))))
      clear hk hlt hway hg hh hv hkv hvv hv0 hs hL hs' hL' hLe
      go_upto_region 5 with fail
      have hL5 : Lies (wr.alloc (.cells #[.int .i64 v.coin, .slice v.pa v.l.length v.c] 24)) wr.heap.size #[.int .i64 v.coin, .slice v.pa v.l.length v.c] 24 := Lies.new _ _ _
      have hw5 : OnWay w (wr.alloc (.cells #[.int .i64 v.coin, .slice v.pa v.l.length v.c] 24)) s L := HR.out.1.step ((Below.refl _ _).alloc (Nat.le_refl _) _)
      generalize wr.alloc (.cells #[.int .i64 v.coin, .slice v.pa v.l.length v.c] 24) = W5 at hL5 hw5 ⊢
      have hw5s : Lies W5 (w.heap.size + 1 + 1) #[.int .i64 (hiS s), .int .u64 (loN s)] 48 := hw5.sum
      have HS : Hid (∀ U, Below W5.heap.size W5 U → Lies U wr.heap.size #[.int .i64 v.coin, .slice v.pa v.l.length v.c] 24) := Lib.hid fun U hU => hL5.below hU hL5.lt
      have HW5 := Lib.hid hw5
      clear hL5 hw5 c0 c1
      refine wp_region_noPanic (wp_region_held (S := fun U => Lies U wr.heap.size #[.int .i64 v.coin, .slice v.pa v.l.length v.c] 24) (by kernel_rfl) ?_)
      change wpAnyH _ _ _ _ _ 7 _ _ (World.drew W5)
      have hbd : Below W5.heap.size W5 W5.drew := (Below.refl _ _).drew
      generalize World.drew W5 = wd at hbd ⊢
      have hcur := HS.out _ hbd
      refine held_take (i := 1) (v := (.pointer (some ⟨wr.heap.size, 0, none⟩))) rfl 19 rfl (by kernel_rfl) (by kernel_rfl) (by kernel_rfl) (fun _ _ _ h => h) (by rfl) (by intro w' hS'; unfold execOp; simp [go_sem]) hcur _ rfl ?_
      simp only [Act.put, List.setIfInBounds_toArray, List.set_cons_zero, List.set_cons_succ]
      refine held_take (i := 2) (v := (.int .i64 v.coin)) rfl 20 rfl (by kernel_rfl) (by kernel_rfl) (by kernel_rfl) (fun _ _ _ h => h) (by rfl) (by intro w' hS'; have hq := hS'.cell 0 (v := .int .i64 v.coin) rfl; unfold execOp; simp [go_sem, hq]) hcur _ rfl ?_
      simp only [Act.put, List.setIfInBounds_toArray, List.set_cons_zero, List.set_cons_succ]
      have hload : ∀ U, Below W5.heap.size W5 U → U.rangeAt (w.heap.size + 1 + 1) 0 (#[Value.int .i64 (hiS s), .int .u64 (loN s)] : Array Value).toList := fun U hU => range_lies (hw5s.below hU hw5s.lt)
      obtain ⟨cv, hcv⟩ : ∃ c, c = wC (s + wide v.coin) := ⟨_, rfl⟩
      have hcs : cv.size = 2 := by rw [hcv]; rfl
      have hc1 : cv.all (·.oneCell') = true := by rw [hcv]; exact wC_one _
      refine (show (∀ (x22 : Value) (W8 : World), OnWay w W8 (s + wide v.coin) L → Lies W8 wr.heap.size #[.int .i64 v.coin, .slice v.pa v.l.length v.c] 24 → (?X : Value → World → Prop) x22 W8) → _ from fun hcont => ?arms) ?cont
      case arms =>
        refine wpAnyH_all (rs := [0, 3]) (by kernel_rfl) (by simp) ?_
        intro jj hjj
        have hjj' : jj = 0 ∨ jj = 3 := by simpa using hjj
        clear hjj
        rcases hjj' with rfl | rfl
        case inl =>
          refine wpOp_valG (v := .agg #[.int .i64 (hiS s), .int .u64 (loN s)]) (w' := wd) rfl (by rfl) 18 rfl (exec_loadM 48 _ rfl _ _ rfl #[.int .i64 (hiS s), .int .u64 (loN s)] (hload _ hbd) Tryz.underlying48 rfl info_wide) ?_
          refine ⟨hcur, ?_⟩
          simp only [Act.put, List.setIfInBounds_toArray, List.set_cons_zero, List.set_cons_succ]
          refine held_one (i := 3) (by kernel_rfl) _ rfl (wpOp_callG rfl (by rfl) 21 rfl 39 #[.int .i64 v.coin] (by unfold execOp; simp [go_sem]) _ (ret_of (wide_any wd v.coin HR.out.2.2.1.1 HR.out.2.2.1.2.1)) ?_)
          rintro v3 w3 ⟨rfl, hb3⟩
          have hc3 := hbd.trans (hb3.mono hbd.size)
          refine ⟨HS.out _ hc3, ?_⟩
          unfold wv
          simp only [Act.put, List.setIfInBounds_toArray, List.set_cons_zero, List.set_cons_succ]
          refine held_one (i := 4) (by kernel_rfl) _ rfl (wpOp_valG (v := .slice (some ⟨w3.heap.size, 0, none⟩) 2 2) (w' := w3.alloc (.cells #[.int .i64 (hiS s), .int .u64 (loN s), .int .i64 (hiS (wide v.coin)), .int .u64 (loN (wide v.coin))] 48)) rfl (by rfl) 22 rfl (by unfold execOp; simp [go_sem]) ?_)
          have hb6 : Below w3.heap.size w3 (w3.alloc (.cells #[.int .i64 (hiS s), .int .u64 (loN s), .int .i64 (hiS (wide v.coin)), .int .u64 (loN (wide v.coin))] 48)) := (Below.refl _ _).alloc (Nat.le_refl _) _
          have hl6 : Lies (w3.alloc (.cells #[.int .i64 (hiS s), .int .u64 (loN s), .int .i64 (hiS (wide v.coin)), .int .u64 (loN (wide v.coin))] 48)) w3.heap.size #[.int .i64 (hiS s), .int .u64 (loN s), .int .i64 (hiS (wide v.coin)), .int .u64 (loN (wide v.coin))] 48 := Lies.new _ _ _
          generalize w3.alloc (.cells #[.int .i64 (hiS s), .int .u64 (loN s), .int .i64 (hiS (wide v.coin)), .int .u64 (loN (wide v.coin))] 48) = w6 at hb6 hl6 ⊢
          have hc6 := hc3.trans (hb6.mono hc3.size)
          refine ⟨HS.out _ hc6, ?_⟩
          simp only [Act.put, List.setIfInBounds_toArray, List.set_cons_zero, List.set_cons_succ]
          have hplus := plus_two w6 w3.heap.size s (wide v.coin) hl6
          rw [wv_wC, ← hcv] at hplus
          refine held_one (i := 5) (by kernel_rfl) _ rfl (wpOp_callG rfl (by rfl) 23 rfl 36 #[.slice (some ⟨w3.heap.size, 0, none⟩) 2 2] (by unfold execOp; simp [go_sem]) _ (ret_of hplus) ?_)
          rintro v7 w7 ⟨rfl, hb7⟩
          have hc7 := hc6.trans (hb7.mono hc6.size)
          have hcur := HS.out _ hc7
          refine ⟨hcur, ?_⟩
          simp only [Act.put, List.setIfInBounds_toArray, List.set_cons_zero, List.set_cons_succ]
          have hw7 := HW5.out.step hc7
          have hw8 := hw7.sumTo (s + wide v.coin)
          rw [← hcv] at hw8
          have hv8 : Lies (w7.setRow (w.heap.size + 1 + 1) cv) wr.heap.size #[.int .i64 v.coin, .slice v.pa v.l.length v.c] 24 := hcur.setRowOther _ _ (by have := HR.out.1.sum.lt; omega)
          have hold7 : Lies w7 (w.heap.size + 1 + 1) #[.int .i64 (hiS s), .int .u64 (loN s)] 48 := hw7.sum
          refine held_one (i := 6) (by kernel_rfl) _ rfl (wpOp_storeRow rfl rfl 48 _ _ rfl (w.heap.size + 1 + 1) cv rfl rfl 48 #[.int .i64 (hiS s), .int .u64 (loN s)] hold7 (by rw [hcs]; exact info_wide) hcs.symm hc1 ?_)
          refine ⟨hv8, ?_⟩
          simp only [Act.put, List.setIfInBounds_toArray, List.set_cons_zero, List.set_cons_succ]
          generalize w7.setRow (w.heap.size + 1 + 1) cv = W8 at hw8 hv8 ⊢
          generalize Value.slice (some ⟨w3.heap.size, 0, none⟩) 2 2 = x22
          refine wpAnyH_done (by kernel_rfl) ?_ _
          exact hcont x22 W8 hw8 hv8
        case inr =>
          refine wpOp_callG rfl (by rfl) 21 rfl 39 #[.int .i64 v.coin] (by unfold execOp; simp [go_sem]) _ (ret_of (wide_any wd v.coin HR.out.2.2.1.1 HR.out.2.2.1.2.1)) ?_
          rintro v3 w3 ⟨rfl, hb3⟩
          have hc3 := hbd.trans (hb3.mono hbd.size)
          refine ⟨HS.out _ hc3, ?_⟩
          unfold wv
          simp only [Act.put, List.setIfInBounds_toArray, List.set_cons_zero, List.set_cons_succ]
          refine held_one (i := 0) (by kernel_rfl) _ rfl (wpOp_valG (v := .agg #[.int .i64 (hiS s), .int .u64 (loN s)]) (w' := w3) rfl (by rfl) 18 rfl (exec_loadM 48 _ rfl _ _ rfl #[.int .i64 (hiS s), .int .u64 (loN s)] (hload _ hc3) Tryz.underlying48 rfl info_wide) ?_)
          refine ⟨HS.out _ hc3, ?_⟩
          simp only [Act.put, List.setIfInBounds_toArray, List.set_cons_zero, List.set_cons_succ]
          refine held_one (i := 4) (by kernel_rfl) _ rfl (wpOp_valG (v := .slice (some ⟨w3.heap.size, 0, none⟩) 2 2) (w' := w3.alloc (.cells #[.int .i64 (hiS s), .int .u64 (loN s), .int .i64 (hiS (wide v.coin)), .int .u64 (loN (wide v.coin))] 48)) rfl (by rfl) 22 rfl (by unfold execOp; simp [go_sem]) ?_)
          have hb6 : Below w3.heap.size w3 (w3.alloc (.cells #[.int .i64 (hiS s), .int .u64 (loN s), .int .i64 (hiS (wide v.coin)), .int .u64 (loN (wide v.coin))] 48)) := (Below.refl _ _).alloc (Nat.le_refl _) _
          have hl6 : Lies (w3.alloc (.cells #[.int .i64 (hiS s), .int .u64 (loN s), .int .i64 (hiS (wide v.coin)), .int .u64 (loN (wide v.coin))] 48)) w3.heap.size #[.int .i64 (hiS s), .int .u64 (loN s), .int .i64 (hiS (wide v.coin)), .int .u64 (loN (wide v.coin))] 48 := Lies.new _ _ _
          generalize w3.alloc (.cells #[.int .i64 (hiS s), .int .u64 (loN s), .int .i64 (hiS (wide v.coin)), .int .u64 (loN (wide v.coin))] 48) = w6 at hb6 hl6 ⊢
          have hc6 := hc3.trans (hb6.mono hc3.size)
          refine ⟨HS.out _ hc6, ?_⟩
          simp only [Act.put, List.setIfInBounds_toArray, List.set_cons_zero, List.set_cons_succ]
          have hplus := plus_two w6 w3.heap.size s (wide v.coin) hl6
          rw [wv_wC, ← hcv] at hplus
          refine held_one (i := 5) (by kernel_rfl) _ rfl (wpOp_callG rfl (by rfl) 23 rfl 36 #[.slice (some ⟨w3.heap.size, 0, none⟩) 2 2] (by unfold execOp; simp [go_sem]) _ (ret_of hplus) ?_)
          rintro v7 w7 ⟨rfl, hb7⟩
          have hc7 := hc6.trans (hb7.mono hc6.size)
          have hcur := HS.out _ hc7
          refine ⟨hcur, ?_⟩
          simp only [Act.put, List.setIfInBounds_toArray, List.set_cons_zero, List.set_cons_succ]
          have hw7 := HW5.out.step hc7
          have hw8 := hw7.sumTo (s + wide v.coin)
          rw [← hcv] at hw8
          have hv8 : Lies (w7.setRow (w.heap.size + 1 + 1) cv) wr.heap.size #[.int .i64 v.coin, .slice v.pa v.l.length v.c] 24 := hcur.setRowOther _ _ (by have := HR.out.1.sum.lt; omega)
          have hold7 : Lies w7 (w.heap.size + 1 + 1) #[.int .i64 (hiS s), .int .u64 (loN s)] 48 := hw7.sum
          refine held_one (i := 6) (by kernel_rfl) _ rfl (wpOp_storeRow rfl rfl 48 _ _ rfl (w.heap.size + 1 + 1) cv rfl rfl 48 #[.int .i64 (hiS s), .int .u64 (loN s)] hold7 (by rw [hcs]; exact info_wide) hcs.symm hc1 ?_)
          refine ⟨hv8, ?_⟩
          simp only [Act.put, List.setIfInBounds_toArray, List.set_cons_zero, List.set_cons_succ]
          generalize w7.setRow (w.heap.size + 1 + 1) cv = W8 at hw8 hv8 ⊢
          generalize Value.slice (some ⟨w3.heap.size, 0, none⟩) 2 2 = x22
          refine wpAnyH_done (by kernel_rfl) ?_ _
          exact hcont x22 W8 hw8 hv8
      case cont =>
        intro x22 W8 hw8 hv8
        unfold NoPanic
        dsimp only
        obtain ⟨pv, hpv⟩ : ∃ p, p = v.pa := ⟨_, rfl⟩
        obtain ⟨s1, hs1⟩ : ∃ x, x = s + wide v.coin := ⟨_, rfl⟩
        have c1 := hv8.cell 1 (v := .slice v.pa v.l.length v.c) rfl
        have hvl : (v.l.length : Int) ≤ 9223372036854775807 := by have := HR.out.2.2.1.2.2.1; unfold maxLen at this; omega
        rw [← hpv] at c1
        rw [← hs1] at hw8
        have HW8 := Lib.hid (And.intro hw8 (And.intro hpv hs1))
        obtain ⟨bv, hbv⟩ : ∃ b, b = wr.heap.size := ⟨_, rfl⟩
        rw [← hbv] at c1 ⊢
        clear hw8 hv8 hload hcur hbd hw5s hcv hcs hc1 hpv hs1 HS HW5 hbv
        go_upto_region 7 with fail
        go_loopw [27] (fun i W => ∃ j : Nat, j ≤ v.l.length ∧ i = .int .i64 j ∧ OnWay w W s1 (L ++ (ctsOf v).take j)) (fun i _ => v.l.length - (intOf i).toNat)
        case atStart => exact ⟨0, Nat.zero_le _, rfl, by simpa using HW8.out.1⟩
        case round =>
          obtain ⟨j, hj, rfl, hway⟩ := hrel
          by_cases hlt : j < v.l.length
          · have m1 : (j : Int) < (v.l.length : Int) := by omega
            have m0 : (0 : Int) ≤ (j : Int) := by omega
            obtain ⟨ga, oa, hpa, hga, hha⟩ := HR.out.2.2.1.2.2.2.2 (by omega)
            rw [← HW8.out.2.1] at hpa
            subst hpa
            obtain ⟨a, ha⟩ : ∃ a, a = v.l[j] := ⟨_, rfl⟩
            have hka : v.l[j]? = some a := by rw [ha, List.getElem?_eq_getElem hlt]
            have oka := HR.out.2.2.1.2.2.2.1 a (List.mem_of_getElem? hka)
            have hrg := (hha.below hway.below hga) j a hka
            obtain ⟨va, hva⟩ : ∃ v, v = asC a := ⟨_, rfl⟩
            obtain ⟨na, hna⟩ : ∃ v, v = nmC a.nm := ⟨_, rfl⟩
            have hvs : va.size = 34 := by rw [hva]; exact asC_size a oka.1
            have hv1 : va.all (·.oneCell') = true := by rw [hva]; exact asC_one a
            have h33 : va[33]? = some (.int .i64 a.amt) := by rw [hva]; exact asC_amt a oka.1
            rw [← hva] at hrg
            have hcall : ∀ W, Calls Tryz.prog 59 #[.agg va] W fun e w' => e = .returned (.agg na) ∧ Below W.heap.size W w' := fun W => by
              rw [hva, hna]; exact callAsset_any W a oka.1
            have hwide : ∀ W, Calls Tryz.prog 39 #[.int .i64 a.amt] W fun e w' => e = .returned (wv (wide a.amt)) ∧ Below W.heap.size W w' := fun W => wide_any W a.amt oka.2.2.1 oka.2.2.2
            obtain ⟨Lj, hLj⟩ : ∃ l, l = L ++ (ctsOf v).take j := ⟨_, rfl⟩
            have hLj' : L ++ (ctsOf v).take (j + 1) = Lj ++ [(a.nm, wide a.amt)] := by rw [hLj, ctsOf_take hka, List.append_assoc]
            have hLl : Lj.length < maxLen := by rw [hLj]; exact Nat.lt_of_le_of_lt (Nat.le_trans (HR.out.2.2.2.2.2 j hj) H.out.2) (by decide)
            rw [← hLj] at hway
            obtain ⟨x, hx⟩ : ∃ x, x = wide a.amt := ⟨_, rfl⟩
            rw [← hx] at hLj' hwide
            have hput : ∀ W D, W.ownsMap Tryz.prog 86 rdW (w.heap.size + 1) Lj.length D → HoldsF D (sumAt Lj) → Calls Tryz.prog 67 #[.map (some (w.heap.size + 1)), .agg na, wv x] W fun e w' => e = .returned (.tuple #[]) ∧ PutW W w' (w.heap.size + 1) (Lj.length + 1) (D.put (kN a.nm) (dW (sumAt Lj a.nm + x))) := fun W D h1 h2 => by
              rw [hna]; exact put_any W (w.heap.size + 1) Lj.length D (sumAt Lj) a.nm x h1 h2 hLl oka.1 oka.2.1
            have HI := Lib.hid (And.intro (show (Tryz.prog.info? 38).map (·.size) = some va.size by rw [hvs]; exact info_asset) (And.intro hcall (And.intro hwide hput)))
            have HJ := Lib.hid (And.intro hway (And.intro hlt (And.intro hLj' (And.intro oka (And.intro hvs (And.intro hv1 h33))))))
            have HRG := Lib.hid hrg
            clear hway hlt hj ha hka oka hva hna hvs hv1 h33 hha hga hrg hcall hwide hput hLj hLj' hLl hx
            go_upto_region 9 with (first
              | (refine wpList_load_mid rfl 38 _ rfl ga (oa + j * 34) rfl va.toList _ HRG.out Tryz.underlying38 rfl (by rw [Array.length_toList]; exact HI.out.1) ?_)
              | (refine wpList_store_row rfl 38 _ _ rfl wr.heap.size va rfl rfl 38 z34 (Lies.new wr z34 38) HI.out.1 (by rw [HJ.out.2.2.2.2.1]; kernel_rfl) HJ.out.2.2.2.2.2.1 ?_))
            rw [World.setRow_alloc_new]
            obtain ⟨b9, hb9⟩ : ∃ b, b = wr.heap.size := ⟨_, rfl⟩
            have hL9 : Lies (wr.alloc (.cells va 38)) b9 va 38 := by rw [hb9]; exact Lies.new _ _ _
            have hw9 : OnWay w (wr.alloc (.cells va 38)) s1 Lj := HJ.out.1.step ((Below.refl _ _).alloc (Nat.le_refl _) _)
            have hfar : w.heap.size + 1 + 1 < b9 := by rw [hb9]; exact HJ.out.1.sum.lt
            rw [← hb9]
            generalize wr.alloc (.cells va 38) = W9 at hL9 hw9 ⊢
            have HS9 : Hid (∀ U, Below W9.heap.size W9 U → Lies U b9 va 38) := Lib.hid fun U hU => hL9.below hU hL9.lt
            have HW9 := Lib.hid hw9
            clear hL9 hw9 hb9
            refine wp_region_noPanic (wp_region_held (S := fun U => Lies U b9 va 38) (by kernel_rfl) ?_)
            change wpAnyH _ _ _ _ _ 7 _ _ (World.drew W9)
            have hbd : Below W9.heap.size W9 W9.drew := (Below.refl _ _).drew
            generalize World.drew W9 = wd9 at hbd ⊢
            have hcur := HS9.out _ hbd
            refine held_take (i := 0) (v := (.map (some (w.heap.size + 1)))) rfl 31 rfl (by kernel_rfl) (by kernel_rfl) (by kernel_rfl) (fun _ _ _ h => h) (by rfl) (by intro w' hS'; unfold execOp; simp [go_sem]) hcur _ rfl ?_
            simp only [Act.put, List.setIfInBounds_toArray, List.set_cons_zero, List.set_cons_succ]
            refine held_take (i := 1) (v := (.agg va)) rfl 32 rfl (by kernel_rfl) (by kernel_rfl) (by kernel_rfl) (fun _ _ _ h => h) (by rfl) (by intro w' hS'; exact exec_loadM 38 _ rfl _ _ rfl va (range_lies hS') Tryz.underlying38 rfl HI.out.1) hcur _ rfl ?_
            simp only [Act.put, List.setIfInBounds_toArray, List.set_cons_zero, List.set_cons_succ]
            refine held_take (i := 3) (v := (.pointer (some ⟨b9, 33, none⟩))) rfl 34 rfl (by kernel_rfl) (by kernel_rfl) (by kernel_rfl) (fun _ _ _ h => h) (by rfl) (by intro w' hS'; unfold execOp; simp [go_sem]) hcur _ rfl ?_
            simp only [Act.put, List.setIfInBounds_toArray, List.set_cons_zero, List.set_cons_succ]
            refine held_take (i := 4) (v := (.int .i64 a.amt)) rfl 35 rfl (by kernel_rfl) (by kernel_rfl) (by kernel_rfl) (fun _ _ _ h => h) (by rfl) (by intro w' hS'; have hq := hS'.cell 33 HJ.out.2.2.2.2.2.2; unfold execOp; simp [go_sem, hq]) hcur _ rfl ?_
            simp only [Act.put, List.setIfInBounds_toArray, List.set_cons_zero, List.set_cons_succ]
            refine held_one (i := 2) (by kernel_rfl) _ rfl (wpOp_callG rfl (by rfl) 33 rfl 59 #[.agg va] (by unfold execOp; simp [go_sem]) _ (ret_of (HI.out.2.1 _)) ?_)
            rintro v1 w1 ⟨rfl, hb1⟩
            have hc1 := hbd.trans (hb1.mono hbd.size)
            refine ⟨HS9.out _ hc1, ?_⟩
            simp only [Act.put, List.setIfInBounds_toArray, List.set_cons_zero, List.set_cons_succ]
            refine held_one (i := 5) (by kernel_rfl) _ rfl (wpOp_callG rfl (by rfl) 36 rfl 39 #[.int .i64 a.amt] (by unfold execOp; simp [go_sem]) _ (ret_of (HI.out.2.2.1 _)) ?_)
            rintro v2 w2 ⟨rfl, hb2⟩
            have hc2 := hc1.trans (hb2.mono hc1.size)
            have hcur := HS9.out _ hc2
            refine ⟨hcur, ?_⟩
            simp only [Act.put, List.setIfInBounds_toArray, List.set_cons_zero, List.set_cons_succ]
            have hw2 := HW9.out.step hc2
            obtain ⟨D, hD, hDf⟩ := hw2.map
            refine held_one (i := 6) (by kernel_rfl) _ rfl (wpOp_callG rfl (by rfl) 37 rfl 67 #[.map (some (w.heap.size + 1)), .agg na, wv x] (by unfold execOp; simp [go_sem]) _ (ret_gro (HI.out.2.2.2 w2 D hD hDf)) ?_)
            rintro v3 w3 ⟨rfl, hp3⟩
            have hS3 : Lies w3 b9 va 38 := lies_grown hp3.2 hcur (by simp; omega)
            refine ⟨hS3, ?_⟩
            simp only [Act.put, List.setIfInBounds_toArray, List.set_cons_zero, List.set_cons_succ]
            have hw3 : OnWay w w3 s1 (Lj ++ [(a.nm, x)]) := hw2.put hDf hD.isMap a.nm x HJ.out.2.2.2.1.1 HJ.out.2.2.2.1.2.1 hp3
            have HE := Lib.hid hw3
            clear hw3 hw2 hD hDf hp3 hS3 hcur hc1 hc2 hb1 hb2 hbd
            refine wpAnyH_done (by kernel_rfl) ?_ _
            unfold NoPanic
            dsimp only
            go_wp2_with fail
            have e1 : (j : Int) + 1 = ((j + 1 : Nat) : Int) := by omega
            rw [e1]
            refine ⟨⟨j + 1, HJ.out.2.1, rfl, by rw [HJ.out.2.2.1]; exact HE.out⟩, ?_⟩
            have h := HJ.out.2.1
            show v.l.length - (j + 1) < v.l.length - j
            omega
          · have m1 : ¬ (j : Int) < (v.l.length : Int) := by omega
            have HE : Hid (OnWay w wr s1 (L ++ ctsOf v)) := Lib.hid (by
              have e : (ctsOf v).take j = ctsOf v := List.take_of_length_le (by unfold ctsOf; rw [List.length_map]; omega)
              rw [e] at hway; exact hway)
            clear hway hlt hj
            go_wp2_with fail
            have e1 : (k : Int) + 1 = ((k + 1 : Nat) : Int) := by omega
            rw [e1]
            refine ⟨⟨k + 1, HR.out.2.1, rfl, by rw [HR.out.2.2.2.1, HR.out.2.2.2.2.1, ← HW8.out.2.2]; exact HE.out⟩, ?_⟩
            have h := HR.out.2.1
            show vs.length - (k + 1) < vs.length - k
            omega
    · have m1 : ¬ (k : Int) < (vs.length : Int) := by omega
      have hkk : k = vs.length := by omega
      subst hkk
      rw [List.take_length] at hway
      have HE := Lib.hid hway
      clear hway hlt hk
      go_upto_region 12 with fail
      obtain ⟨cv, hcv⟩ : ∃ c, c = wC (coinS vs) := ⟨_, rfl⟩
      have hcs : cv.size = 2 := by rw [hcv]; rfl
      have hc1 : cv.all (·.oneCell') = true := by rw [hcv]; exact wC_one _
      have hret : wv (coinS vs) = .agg cv := by rw [hcv]; exact wv_wC _
      have hsum : Lies wr (w.heap.size + 1 + 1) cv 48 := by rw [hcv]; exact HE.out.sum
      have HS : Hid (∀ U, Below wr.heap.size wr U → Lies U (w.heap.size + 1 + 1) cv 48) := Lib.hid fun U hU => hsum.below hU hsum.lt
      have HI := Lib.hid (And.intro (show (Tryz.prog.info? 48).map (·.size) = some cv.size by rw [hcs]; exact info_wide) (And.intro hcs (And.intro hc1 hret)))
      have hsz1 : w.heap.size < wr.heap.size := by have := hsum.lt; omega
      clear hsum hcs hc1 hret hcv m1
      refine wp_region_noPanic (wp_region_held (S := fun U => Lies U (w.heap.size + 1 + 1) cv 48) (by kernel_rfl) ?_)
      change wpAnyH _ _ _ _ _ 5 _ _ (World.drew wr)
      have hbd : Below wr.heap.size wr wr.drew := (Below.refl _ _).drew
      generalize World.drew wr = wd at hbd ⊢
      have hcur := HS.out _ hbd
      refine held_take (i := 0) (v := (.agg cv)) rfl 40 rfl (by kernel_rfl) (by kernel_rfl) (by kernel_rfl) (fun _ _ _ h => h) (by rfl) (by intro w' hS'; exact exec_loadM 48 _ rfl _ _ rfl cv (range_lies hS') Tryz.underlying48 rfl HI.out.1) hcur _ rfl ?_
      simp only [Act.put, List.setIfInBounds_toArray, List.set_cons_zero, List.set_cons_succ]
      refine held_take (i := 1) (v := (.map (some (w.heap.size + 1)))) rfl 41 rfl (by kernel_rfl) (by kernel_rfl) (by kernel_rfl) (fun _ _ _ h => h) (by rfl) (by intro w' hS'; unfold execOp; simp [go_sem]) hcur _ rfl ?_
      simp only [Act.put, List.setIfInBounds_toArray, List.set_cons_zero, List.set_cons_succ]
      have hwd := HE.out.step hbd
      obtain ⟨D, hD, hDf⟩ := hwd.map
      have htot := HT.out wd (w.heap.size + 1) _ D _ hD hDf H.out.2 (fun m hm => by
        obtain ⟨p, hp, e⟩ := sumAt_mem hm
        rw [← e]
        exact HNM.out p hp)
      have htot2 : Calls Tryz.prog 68 #[.map (some (w.heap.size + 1))] wd fun e w' => ∃ v, e = .returned v ∧ (∃ pa l c, v = .slice pa l.length c ∧ RowT w' pa l ∧ IsTot (sumAt (ctsL vs)) (l.map fun t => (t.nm, t.w)) ∧ Below wd.heap.size wd w' ∧ Fresh wd.heap.size pa ∧ RoomT wd.heap.size w' pa l.length c) :=
        htot.mono fun e w' h => by
          obtain ⟨pa, l, c, h1, h2⟩ := h
          exact ⟨_, h1, pa, l, c, rfl, h2⟩
      refine held_one (i := 2) (by kernel_rfl) _ rfl (wpOp_callG rfl (by rfl) 42 rfl 68 #[.map (some (w.heap.size + 1))] (by unfold execOp; simp [go_sem]) _ htot2 ?_)
      rintro v1 w1 ⟨pt, lt, ct, rfl, hrow, htt, hb1, hfr1, hrm1⟩
      have hfr : Fresh w.heap.size pt := fun a e => Nat.le_trans (Nat.le_trans HE.out.below.size hbd.size) (hfr1 a e)
      clear hfr1
      have hc1 := hbd.trans (hb1.mono hbd.size)
      have hcur := HS.out _ hc1
      refine ⟨hcur, ?_⟩
      simp only [Act.put, List.setIfInBounds_toArray, List.set_cons_zero, List.set_cons_succ]
      have hw1 := HE.out.step hc1
      have hres : Lies w1 w.heap.size #[.int .i64 0, .int .u64 0] 48 := hw1.res
      refine held_one (i := 3) (by kernel_rfl) _ rfl (wpOp_storeRow rfl rfl 48 _ _ rfl w.heap.size cv rfl rfl 48 #[.int .i64 0, .int .u64 0] hres HI.out.1 HI.out.2.1.symm HI.out.2.2.1 ?_)
      have hbs := below_setRow hw1.below w.heap.size cv (Nat.le_refl _)
      have hrow2 : RowT (w1.setRow w.heap.size cv) pt lt := hrow.setRow w.heap.size cv hres (by decide)
      have hres2 : Lies (w1.setRow w.heap.size cv) w.heap.size cv 48 := hres.setRow _
      have hsum2 : Lies (w1.setRow w.heap.size cv) (w.heap.size + 1 + 1) cv 48 := hcur.setRowOther _ _ (by omega)
      refine ⟨hsum2, ?_⟩
      simp only [Act.put, List.setIfInBounds_toArray, List.set_cons_zero, List.set_cons_succ]
      have hrm2 : RoomT w.heap.size (w1.setRow w.heap.size cv) pt lt.length ct := (hrm1.setRow (Nat.lt_of_lt_of_le hsz1 hbd.size) cv).mono (Nat.le_trans HE.out.below.size hbd.size)
      generalize w1.setRow w.heap.size cv = w2 at hbs hrow2 hres2 hsum2 hrm2 ⊢
      have hcur := hsum2
      refine held_take (i := 4) (v := (.slice pt lt.length ct)) rfl 3 rfl (by kernel_rfl) (by kernel_rfl) (by kernel_rfl) (fun _ _ _ h => h) (by rfl) (by intro w' hS'; unfold execOp; simp [go_sem]) hcur _ rfl ?_
      simp only [Act.put, List.setIfInBounds_toArray, List.set_cons_zero, List.set_cons_succ]
      refine wpAnyH_done (by kernel_rfl) ?_ _
      unfold NoPanic
      dsimp only
      have HZ := Lib.hid (And.intro hbs (And.intro hrow2 (And.intro hres2 (And.intro htt (And.intro hfr hrm2)))))
      clear hbs hrow2 hres2 htt hfr hrm2 hrm1 hsz1 hsum2 hcur hres hw1 hc1 hb1 hrow htot htot2 hD hDf hwd hbd
      go_wp2_with fail
      refine bodyPost_ret (v := .tuple #[.agg cv, .slice pt lt.length ct]) (results_row_tmp (p := 2) (u := 3) (ty := 48) (by kernel_rfl) _ _ w.heap.size 48 cv (0, 0) _ rfl HZ.out.2.2.1 Tryz.underlying48 rfl HI.out.1) rfl ⟨⟨pt, lt, ct, by rw [HI.out.2.2.2], HZ.out.2.1, HZ.out.2.2.2.1, HZ.out.2.2.2.2⟩, HZ.out.1⟩
theorem sumsF_any (hT : TotalsAt) (w : World) (pa : Option Addr) (vs : List Va) (c : Nat) (h : RowV w pa vs) (hc : (ctsL vs).length ≤ 1000000) (hnm : ∀ p, p ∈ ctsL vs → p.1.1.length = 32 ∧ p.1.2.length ≤ 281474976710656) :
    Calls Tryz.prog 26 #[.slice pa vs.length c] w fun e w' => SumsResF vs w.heap.size w' e ∧ Below w.heap.size w w' :=
  (sumsR_any hT w pa vs c h hc hnm).mono fun _ _ ⟨⟨p, l, c', h1, h2, h3, h4, _⟩, h5⟩ => ⟨⟨p, l, c', h1, h2, h3, h4⟩, h5⟩
theorem sums_any (hT : TotalsAt) (w : World) (pa : Option Addr) (vs : List Va) (c : Nat) (h : RowV w pa vs) (hc : (ctsL vs).length ≤ 1000000) (hnm : ∀ p, p ∈ ctsL vs → p.1.1.length = 32 ∧ p.1.2.length ≤ 281474976710656) :
    Calls Tryz.prog 26 #[.slice pa vs.length c] w fun e w' => SumsRes vs w' e ∧ Below w.heap.size w w' :=
  (sumsF_any hT w pa vs c h hc hnm).mono fun _ _ ⟨⟨p, l, c', h1, h2, h3, _⟩, h5⟩ => ⟨⟨p, l, c', h1, h2, h3⟩, h5⟩
end Go.Proofs.YtjngghihciimjaaGreat
namespace Go.Proofs.YtjngghihciimjaaGreat
set_option maxRecDepth 100000

section
variable {P : Program} {md : Region.Mode} {ops : Array Oper} {Q : Exit → Act → World → Prop} {late : Nat → Bool} {S : World → Prop}
/-- Whatever order is picked from here on; S holds behind each operation that is not late. -/
def wpLate (P : Program) (md : Region.Mode) (ops : Array Oper) (Q : Exit → Act → World → Prop) (late : Nat → Bool) (S : World → Prop) : Nat → Array Bool → Act → World → Prop
  | 0, listed, a, w => Region.ready md ops listed = [] ∧ Q .normal a w
  | n + 1, listed, a, w =>
    (Region.ready md ops listed = [] → Q .normal a w) ∧
    ∀ j ∈ Region.ready md ops listed, wpOp P ops Q j (fun a' w' => (late j = false → S w') ∧ wpLate P md ops Q late S n (listed.setIfInBounds j true) a' w') a w
theorem wpLate.any : ∀ (n : Nat) (listed : Array Bool) (a : Act) (w : World), wpLate P md ops Q late S n listed a w → wpAny P md ops Q n listed a w
  | 0, _, _, _, h => h
  | n + 1, _, _, _, h => ⟨h.1, fun j hj => wpOp_mono (fun a' w' h' => wpLate.any n _ a' w' h'.2) (h.2 j hj)⟩
theorem late_first {i : Nat} {oi : Oper} {v : Value} (hi : ops[i]? = some oi) (hsel : ∀ (j : Nat) (o : Oper) cs b, ops[j]? = some o → o.op ≠ .select cs b)
    (hQ : ∀ c a w, Q (.panic c) (a.put oi.dst v) w → Q (.panic c) a w) (hlate : ∀ j oj, ops[j]? = some oj → late j = true → ∃ e, e ∈ oj.after ∧ Region.binds md e = true ∧ e.on = i) (n : Nat) :
    ∀ (listed : Array Bool) (a : Act) (w : World),
      (∀ j oj, ops[j]? = some oj → j ≠ i → listed.getD j true = false → (∀ e ∈ oj.after, Region.binds md e = true → e.on ≠ i) → oi.apart ops oj = true) →
      i ∈ Region.ready md ops listed → YieldsIf P ops S oi v a → S w → wpLate P md ops Q late S n (listed.setIfInBounds i true) (a.put oi.dst v) w → wpLate P md ops Q late S (n + 1) listed a w := by
  induction n with
  | zero =>
    intro listed a w _ hr hy hS H
    refine ⟨fun e => (by rw [e] at hr; cases hr), fun j hj => ?_⟩
    by_cases e : j = i
    · subst e
      exact hy.wpOp hi hS ⟨fun _ => hS, H⟩
    · have hm := ready_mono hj e
      rw [H.1] at hm
      cases hm
  | succ n ih =>
    intro listed a w hap hr hy hS H
    refine ⟨fun e => (by rw [e] at hr; cases hr), fun j hj => ?_⟩
    by_cases e : j = i
    · subst e
      exact hy.wpOp hi hS ⟨fun _ => hS, H⟩
    · obtain ⟨hu, oj, hoj, hall⟩ := mem_ready.1 hj
      have hfree : ∀ x ∈ oj.after, Region.binds md x = true → x.on ≠ i := fun x hx hb he => by
        have q1 := hall x hx hb
        have q0 := (mem_ready.1 hr).1
        rw [he] at q1
        rcases Nat.lt_or_ge i listed.size with hs | hs
        · simp [hs] at q0 q1
          rw [q0] at q1
          cases q1
        · simp [Array.getElem?_eq_none hs] at q1
      have hl : late j = false := by
        cases hlj : late j with
        | false => rfl
        | true =>
          obtain ⟨x, hx, hb, he⟩ := hlate j oj hoj hlj
          exact absurd he (hfree x hx hb)
      have q2 := wpOp_putIf hoj (hap j oj hoj e hu hfree) (fun cs b => hsel i oi cs b hi) (fun cs b => hsel j oj cs b hoj) hQ hy (H.2 j (ready_mono hj e))
      refine wpOp_mono (fun a' w' q3 => ⟨q3.2.1, ih (listed.setIfInBounds j true) a' w' (fun k ok hk hki hun hno => hap k ok hk hki ?_ hno) (ready_mono hr (Ne.symm e)) q3.1 (q3.2.1 hl) ?_⟩) q2
      · by_cases ejk : j = k
        · subst ejk
          exact hu
        · rw [getD_set_ne true ejk] at hun
          exact hun
      · rw [Array.setIfInBounds_comm _ _ e]
        exact q3.2.2
/-- Do all late ones wait for i? -/
def waitsB (md : Region.Mode) (ops : Array Oper) (late : Nat → Bool) (i : Nat) : Bool := (List.range ops.size).all fun j => !late j || (match ops[j]? with | some o => o.after.any fun e => Region.binds md e && e.on == i | none => true)
theorem waits_of {i : Nat} (h : waitsB md ops late i = true) : ∀ j oj, ops[j]? = some oj → late j = true → ∃ e, e ∈ oj.after ∧ Region.binds md e = true ∧ e.on = i := fun j oj hj hl => by
  unfold waitsB at h
  rw [List.all_eq_true] at h
  have h2 := h j (List.mem_range.2 (Array.getElem?_eq_some_iff.1 hj).1)
  rw [hl, hj] at h2
  simp only [Bool.not_true, Bool.false_or, Array.any_eq_true'] at h2
  obtain ⟨e, he, h3⟩ := h2
  rw [Bool.and_eq_true, beq_iff_eq] at h3
  exact ⟨e, he, h3⟩
theorem late_take {i : Nat} {oi : Oper} {v : Value} {n : Nat} {listed : Array Bool} {a : Act} {w : World} (hi : ops[i]? = some oi) (d : Tmp) (hd : oi.dst = some d)
    (hs : Region.noSelect ops = true) (hf : Region.free md ops listed i = true) (hr : (Region.ready md ops listed).contains i = true) (hwt : waitsB md ops late i = true) (hQ : ∀ c a w, Q (.panic c) (a.put (some d) v) w → Q (.panic c) a w)
    (hw : Region.wanted oi (yielded ops a.tmps) = true) (hy : ∀ w, S w → (execOp a.eval oi).run P w = .ok (.value v) w) (hS : S w) (l2 : Array Bool) (hl : listed.setIfInBounds i true = l2)
    (h : wpLate P md ops Q late S n l2 (a.put (some d) v) w) : wpLate P md ops Q late S (n + 1) listed a w := by
  subst hl
  rw [← hd] at h hQ
  exact late_first hi (Region.noSelect_spec hs) hQ (waits_of hwt) n listed a w (Region.free_spec hi hf) (by simpa using hr) (.inl ⟨hw, hy⟩) hS h
theorem late_one {i : Nat} {n : Nat} {listed : Array Bool} {a : Act} {w : World} (hr : Region.ready md ops listed = [i]) (l2 : Array Bool) (hl : listed.setIfInBounds i true = l2)
    (h : wpOp P ops Q i (fun a' w' => (late i = false → S w') ∧ wpLate P md ops Q late S n l2 a' w') a w) : wpLate P md ops Q late S (n + 1) listed a w := by
  subst hl
  refine ⟨fun e => (by rw [hr] at e; cases e), fun j hj => ?_⟩
  rw [hr] at hj
  obtain rfl : j = i := by simpa using hj
  exact h
theorem late_done {listed : Array Bool} {a : Act} {w : World} (hr : Region.ready md ops listed = []) (h : Q .normal a w) : ∀ n, wpLate P md ops Q late S n listed a w
  | 0 => ⟨hr, h⟩
  | _ + 1 => ⟨fun _ => h, (by rw [hr]; simp)⟩
theorem wpOp_skipG {i : Nat} {o : Oper} {a : Act} {w w' : World} {K : Act → World → Prop} (hi : ops[i]? = some o) (hw : Region.wanted o (yielded ops a.tmps) = true) (hd : o.dst = none)
    (hr : (execOp a.eval o).run P w = .ok .skip w') (h : K a w') : wpOp P ops Q i K a w := by
  unfold wpOp
  rw [hi]
  show if Region.wanted o (yielded ops a.tmps) = true then _ else _
  rw [if_pos hw]
  refine .inl ?_
  unfold Oper.wp
  rw [hr]
  show K (a.put o.dst undef) w'
  rw [hd]
  exact h
/-- A panic's post by itself, where no deferred call waits. -/
def OrPanic (T : List PanicEntry → World → Prop) (Q : Exit → Act → World → Prop) : Exit → Act → World → Prop
  | .panic c, a, w => a.defers = [] ∧ T c w
  | e, a, w => Q e a w
theorem wp_region_orPanic {id : Nat} {b : Bool} {a : Act} {w : World} (T : List PanicEntry → World → Prop) (hT : ∀ c a w, a.defers = [] → T c w → Q (.panic c) a w) (h : (Code.region id ops b).wp P (OrPanic T Q) a w) : (Code.region id ops b).wp P Q a w :=
  Code.wp_mono (fun e a w h => by cases e <;> first | exact h | exact hT _ _ _ h.1 h.2) h
theorem wpOp_callP {i : Nat} {o : Oper} {a : Act} {w : World} {K : Act → World → Prop} (hi : ops[i]? = some o) (hw : Region.wanted o (yielded ops a.tmps) = true) (d : Tmp) (hd : o.dst = some d) (f : FuncId) (args : Array Value)
    (hr : (execOp a.eval o).run P w = .ok (.enter f args) w) (R : Value → World → Prop) (T : List PanicEntry → World → Prop) (hc : Calls P f args w fun e w' => (∃ v, e = .returned v ∧ R v w') ∨ (∃ c, e = .panicked c ∧ T c w')) (h : ∀ v w', R v w' → K (a.put (some d) v) w') (hp : ∀ c w', T c w' → Q (.panic c) a w') : wpOp P ops Q i K a w := by
  unfold wpOp
  rw [hi]
  show if Region.wanted o (yielded ops a.tmps) = true then _ else _
  rw [if_pos hw]
  refine .inl ?_
  unfold Oper.wp
  rw [hr, Oper.upon_enter]
  refine hc.mono fun e w' hh => ?_
  rcases hh with ⟨v, rfl, hR⟩ | ⟨c, rfl, hR⟩
  · rw [hd]
    exact h v w' hR
  · exact hp c w' hR
theorem wp_region_late {id : Nat} {a : Act} {w : World} (late : Nat → Bool) (S : World → Prop) (hm : P.follows .mixedOrders = true)
    (h : wpLate P .any ops Q late S ops.size (Array.replicate ops.size false) a { w with drawn := w.drawn + 1 }) : (Code.region id ops true).wp P Q a w :=
  wp_region_any hm (wpLate.any _ _ _ _ h)
end
end Go.Proofs.YtjngghihciimjaaGreat
