/-
  The sums of bundles: the walk.
  The bundle of all sums; or a panic, where there is none.
-/
import Derived.Test.YtjngghihciimjaaGreatJVor
import Derived.Test.YtjngghihciimjaaGreatJVst
import Derived.Test.YtjngghihciimjaaGreatJAg
import Derived.Test.YtjngghihciimjaaGreatJVy
namespace Go.Proofs.YtjngghihciimjaaGreat
set_option maxRecDepth 100000
open Go.RowKit Go.Sort Go.Maps

set_option maxHeartbeats 4000000 in
theorem sumsR_any (hT : TotalsAt) (w : World) (pa : Option Addr) (vs : List Va) (c : Nat) (h : RowV w pa vs) (hc : (ctsL vs).length ≤ 1000000) (hnm : ∀ p, p ∈ ctsL vs → p.1.1.length = 32 ∧ p.1.2.length ≤ 281474976710656) :
    Calls Tryz.prog 26 #[.slice pa vs.length c] w fun e w' => SumsResR vs w.heap.size w' e ∧ Below w.heap.size w w' := by
  have hli : (vs.length : Int) ≤ 9223372036854775807 := by have := h.1; unfold maxLen at this; omega
  have H := Lib.hid (And.intro h hc)
  have HNM := Lib.hid hnm
  have HT := Lib.hid hT
  clear h hc hT hnm
  have hmk := fun W => run_makeMap (P := Tryz.prog) 121 W
  go_enter Tryz.func26, Tryz.ntmps26
  go_upto_region 3 with fail
  have hway : OnWay w (((w.alloc (.cells #[.int .i64 0, .int .u64 0] 48)).alloc (.map #[] 0)).alloc (.cells #[.int .i64 0, .int .u64 0] 48)) (coinS (vs.take 0)) (ctsL (vs.take 0)) := by
    have e1 : (w.alloc (.cells #[.int .i64 0, .int .u64 0] 48)).heap.size = w.heap.size + 1 := by simp
    have e2 : ((w.alloc (.cells #[.int .i64 0, .int .u64 0] 48)).alloc (.map #[] 0)).heap.size = w.heap.size + 1 + 1 := by simp
    refine ⟨(((Below.refl _ _).alloc (Nat.le_refl _) _).alloc (by omega) _).alloc (by omega) _, ((Lies.new _ _ _).alloc _).alloc _, ⟨.map [], ?_, HoldsF.none⟩, ?_⟩
    · have := (World.ownsMap_made (H := Unit) (w.alloc (.cells #[.int .i64 0, .int .u64 0] 48)) Tryz.prog 86 rdW).alloc (.cells #[.int .i64 0, .int .u64 0] 48)
      rw [e1] at this
      exact this
    · have := Lies.new ((w.alloc (.cells #[.int .i64 0, .int .u64 0] 48)).alloc (.map #[] 0)) #[.int .i64 0, .int .u64 0] 48
      rw [e2] at this
      rw [show wC (coinS (vs.take 0)) = #[.int .i64 0, .int .u64 0] from wC_zero]
      exact this
  clear hmk
  generalize (((w.alloc (.cells #[.int .i64 0, .int .u64 0] 48)).alloc (.map #[] 0)).alloc (.cells #[.int .i64 0, .int .u64 0] 48)) = W1 at hway ⊢
  have HW := Lib.hid hway
  clear hway
  go_loopw [14] (fun i W => ∃ k : Nat, k ≤ vs.length ∧ i = .int .i64 k ∧ OnWay w W (coinS (vs.take k)) (ctsL (vs.take k))) (fun i _ => vs.length - (intOf i).toNat)
  case atStart => exact ⟨0, Nat.zero_le _, rfl, HW.out⟩
  case round =>
    clear HW
    obtain ⟨k, hk, rfl, hway⟩ := hrel
    by_cases hlt : k < vs.length
    · have m1 : (k : Int) < (vs.length : Int) := by omega
      have m0 : (0 : Int) ≤ (k : Int) := by omega
      obtain ⟨g, off, rfl, hg, hh⟩ := H.out.1.2 (by omega)
      obtain ⟨v, hv⟩ : ∃ v, v = vs[k] := ⟨_, rfl⟩
      have hkv : vs[k]? = some v := by rw [hv, List.getElem?_eq_getElem hlt]
      have hvv := hh.below hway.below hg (Nat.le_refl _) k v hkv
      have hv0 := (hh k v hkv).2
      have c0 := hvv.1 0 (.int .i64 v.coin) rfl
      have c1 := hvv.1 1 (.slice v.pa v.l.length v.c) rfl
      rw [Nat.add_zero] at c0
      obtain ⟨s, hs⟩ : ∃ s, s = coinS (vs.take k) := ⟨_, rfl⟩
      obtain ⟨L, hL⟩ : ∃ L, L = ctsL (vs.take k) := ⟨_, rfl⟩
      have hs' : coinS (vs.take (k + 1)) = s + wide v.coin := by rw [hs]; exact coinS_take hkv
      have hL' : ctsL (vs.take (k + 1)) = L ++ ctsOf v := by rw [hL]; exact ctsL_take hkv
      have hLe : ∀ j, j ≤ v.l.length → (L ++ (ctsOf v).take j).length ≤ (ctsL vs).length := fun j hj => by rw [hL]; exact ctsL_le hkv hj
      rw [← hs, ← hL] at hway
      have HR := Lib.hid (And.intro hway (And.intro hlt (And.intro hv0 (And.intro hs' (And.intro hL' hLe)))))
      clear hk hlt hway hg hh hv hkv hvv hv0 hs hL hs' hL' hLe
      go_upto_region 5 with fail
      have hL5 : Lies (wr.alloc (.cells #[.int .i64 v.coin, .slice v.pa v.l.length v.c] 24)) wr.heap.size #[.int .i64 v.coin, .slice v.pa v.l.length v.c] 24 := Lies.new _ _ _
      have hw5 : OnWay w (wr.alloc (.cells #[.int .i64 v.coin, .slice v.pa v.l.length v.c] 24)) s L := HR.out.1.step ((Below.refl _ _).alloc (Nat.le_refl _) _)
      generalize wr.alloc (.cells #[.int .i64 v.coin, .slice v.pa v.l.length v.c] 24) = W5 at hL5 hw5 ⊢
      have hw5s : Lies W5 (w.heap.size + 1 + 1) #[.int .i64 (hiS s), .int .u64 (loN s)] 48 := hw5.sum
      have HS : Hid (∀ U, Below W5.heap.size W5 U → Lies U wr.heap.size #[.int .i64 v.coin, .slice v.pa v.l.length v.c] 24) := Lib.hid fun U hU => hL5.below hU hL5.lt
      have HW5 := Lib.hid hw5
      clear hL5 hw5 c0 c1
      refine wp_region_noPanic (wp_region_held (S := fun U => Lies U wr.heap.size #[.int .i64 v.coin, .slice v.pa v.l.length v.c] 24) (by kernel_rfl) ?_)
      change wpAnyH _ _ _ _ _ 7 _ _ (World.drew W5)
      have hbd : Below W5.heap.size W5 W5.drew := (Below.refl _ _).drew
      generalize World.drew W5 = wd at hbd ⊢
      have hcur := HS.out _ hbd
      refine held_take (i := 1) (v := (.pointer (some ⟨wr.heap.size, 0, none⟩))) rfl 19 rfl (by kernel_rfl) (by kernel_rfl) (by kernel_rfl) (fun _ _ _ h => h) (by rfl) (by intro w' hS'; unfold execOp; simp [go_sem]) hcur _ rfl ?_
      simp only [Act.put, List.setIfInBounds_toArray, List.set_cons_zero, List.set_cons_succ]
      refine held_take (i := 2) (v := (.int .i64 v.coin)) rfl 20 rfl (by kernel_rfl) (by kernel_rfl) (by kernel_rfl) (fun _ _ _ h => h) (by rfl) (by intro w' hS'; have hq := hS'.cell 0 (v := .int .i64 v.coin) rfl; unfold execOp; simp [go_sem, hq]) hcur _ rfl ?_
      simp only [Act.put, List.setIfInBounds_toArray, List.set_cons_zero, List.set_cons_succ]
      have hload : ∀ U, Below W5.heap.size W5 U → U.rangeAt (w.heap.size + 1 + 1) 0 (#[Value.int .i64 (hiS s), .int .u64 (loN s)] : Array Value).toList := fun U hU => range_lies (hw5s.below hU hw5s.lt)
      obtain ⟨cv, hcv⟩ : ∃ c, c = wC (s + wide v.coin) := ⟨_, rfl⟩
      have hcs : cv.size = 2 := by rw [hcv]; rfl
      have hc1 : cv.all (·.oneCell') = true := by rw [hcv]; exact wC_one _
      refine (show (∀ (x22 : Value) (W8 : World), OnWay w W8 (s + wide v.coin) L → Lies W8 wr.heap.size #[.int .i64 v.coin, .slice v.pa v.l.length v.c] 24 → (?X : Value → World → Prop) x22 W8) → _ from fun hcont => ?arms) ?cont
      case arms =>
        refine wpAnyH_all (rs := [0, 3]) (by kernel_rfl) (by simp) ?_
        intro jj hjj
        have hjj' : jj = 0 ∨ jj = 3 := by simpa using hjj
        clear hjj
        rcases hjj' with rfl | rfl
        case inl =>
          refine wpOp_valG (v := .agg #[.int .i64 (hiS s), .int .u64 (loN s)]) (w' := wd) rfl (by rfl) 18 rfl (exec_loadM 48 _ rfl _ _ rfl #[.int .i64 (hiS s), .int .u64 (loN s)] (hload _ hbd) Tryz.underlying48 rfl info_wide) ?_
          refine ⟨hcur, ?_⟩
          simp only [Act.put, List.setIfInBounds_toArray, List.set_cons_zero, List.set_cons_succ]
          refine held_one (i := 3) (by kernel_rfl) _ rfl (wpOp_callG rfl (by rfl) 21 rfl 39 #[.int .i64 v.coin] (by unfold execOp; simp [go_sem]) _ (ret_of (wide_any wd v.coin HR.out.2.2.1.1 HR.out.2.2.1.2.1)) ?_)
          rintro v3 w3 ⟨rfl, hb3⟩
          have hc3 := hbd.trans (hb3.mono hbd.size)
          refine ⟨HS.out _ hc3, ?_⟩
          unfold wv
          simp only [Act.put, List.setIfInBounds_toArray, List.set_cons_zero, List.set_cons_succ]
          refine held_one (i := 4) (by kernel_rfl) _ rfl (wpOp_valG (v := .slice (some ⟨w3.heap.size, 0, none⟩) 2 2) (w' := w3.alloc (.cells #[.int .i64 (hiS s), .int .u64 (loN s), .int .i64 (hiS (wide v.coin)), .int .u64 (loN (wide v.coin))] 48)) rfl (by rfl) 22 rfl (by unfold execOp; simp [go_sem]) ?_)
          have hb6 : Below w3.heap.size w3 (w3.alloc (.cells #[.int .i64 (hiS s), .int .u64 (loN s), .int .i64 (hiS (wide v.coin)), .int .u64 (loN (wide v.coin))] 48)) := (Below.refl _ _).alloc (Nat.le_refl _) _
          have hl6 : Lies (w3.alloc (.cells #[.int .i64 (hiS s), .int .u64 (loN s), .int .i64 (hiS (wide v.coin)), .int .u64 (loN (wide v.coin))] 48)) w3.heap.size #[.int .i64 (hiS s), .int .u64 (loN s), .int .i64 (hiS (wide v.coin)), .int .u64 (loN (wide v.coin))] 48 := Lies.new _ _ _
          generalize w3.alloc (.cells #[.int .i64 (hiS s), .int .u64 (loN s), .int .i64 (hiS (wide v.coin)), .int .u64 (loN (wide v.coin))] 48) = w6 at hb6 hl6 ⊢
          have hc6 := hc3.trans (hb6.mono hc3.size)
          refine ⟨HS.out _ hc6, ?_⟩
          simp only [Act.put, List.setIfInBounds_toArray, List.set_cons_zero, List.set_cons_succ]
          have hplus := plus_two w6 w3.heap.size s (wide v.coin) hl6
          rw [wv_wC, ← hcv] at hplus
          refine held_one (i := 5) (by kernel_rfl) _ rfl (wpOp_callG rfl (by rfl) 23 rfl 36 #[.slice (some ⟨w3.heap.size, 0, none⟩) 2 2] (by unfold execOp; simp [go_sem]) _ (ret_of hplus) ?_)
          rintro v7 w7 ⟨rfl, hb7⟩
          have hc7 := hc6.trans (hb7.mono hc6.size)
          have hcur := HS.out _ hc7
          refine ⟨hcur, ?_⟩
          simp only [Act.put, List.setIfInBounds_toArray, List.set_cons_zero, List.set_cons_succ]
          have hw7 := HW5.out.step hc7
          have hw8 := hw7.sumTo (s + wide v.coin)
          rw [← hcv] at hw8
          have hv8 : Lies (w7.setRow (w.heap.size + 1 + 1) cv) wr.heap.size #[.int .i64 v.coin, .slice v.pa v.l.length v.c] 24 := hcur.setRowOther _ _ (by have := HR.out.1.sum.lt; omega)
          have hold7 : Lies w7 (w.heap.size + 1 + 1) #[.int .i64 (hiS s), .int .u64 (loN s)] 48 := hw7.sum
          refine held_one (i := 6) (by kernel_rfl) _ rfl (wpOp_storeRow rfl rfl 48 _ _ rfl (w.heap.size + 1 + 1) cv rfl rfl 48 #[.int .i64 (hiS s), .int .u64 (loN s)] hold7 (by rw [hcs]; exact info_wide) hcs.symm hc1 ?_)
          refine ⟨hv8, ?_⟩
          simp only [Act.put, List.setIfInBounds_toArray, List.set_cons_zero, List.set_cons_succ]
          generalize w7.setRow (w.heap.size + 1 + 1) cv = W8 at hw8 hv8 ⊢
          generalize Value.slice (some ⟨w3.heap.size, 0, none⟩) 2 2 = x22
          refine wpAnyH_done (by kernel_rfl) ?_ _
          exact hcont x22 W8 hw8 hv8
        case inr =>
          refine wpOp_callG rfl (by rfl) 21 rfl 39 #[.int .i64 v.coin] (by unfold execOp; simp [go_sem]) _ (ret_of (wide_any wd v.coin HR.out.2.2.1.1 HR.out.2.2.1.2.1)) ?_
          rintro v3 w3 ⟨rfl, hb3⟩
          have hc3 := hbd.trans (hb3.mono hbd.size)
          refine ⟨HS.out _ hc3, ?_⟩
          unfold wv
          simp only [Act.put, List.setIfInBounds_toArray, List.set_cons_zero, List.set_cons_succ]
          refine held_one (i := 0) (by kernel_rfl) _ rfl (wpOp_valG (v := .agg #[.int .i64 (hiS s), .int .u64 (loN s)]) (w' := w3) rfl (by rfl) 18 rfl (exec_loadM 48 _ rfl _ _ rfl #[.int .i64 (hiS s), .int .u64 (loN s)] (hload _ hc3) Tryz.underlying48 rfl info_wide) ?_)
          refine ⟨HS.out _ hc3, ?_⟩
          simp only [Act.put, List.setIfInBounds_toArray, List.set_cons_zero, List.set_cons_succ]
          refine held_one (i := 4) (by kernel_rfl) _ rfl (wpOp_valG (v := .slice (some ⟨w3.heap.size, 0, none⟩) 2 2) (w' := w3.alloc (.cells #[.int .i64 (hiS s), .int .u64 (loN s), .int .i64 (hiS (wide v.coin)), .int .u64 (loN (wide v.coin))] 48)) rfl (by rfl) 22 rfl (by unfold execOp; simp [go_sem]) ?_)
          have hb6 : Below w3.heap.size w3 (w3.alloc (.cells #[.int .i64 (hiS s), .int .u64 (loN s), .int .i64 (hiS (wide v.coin)), .int .u64 (loN (wide v.coin))] 48)) := (Below.refl _ _).alloc (Nat.le_refl _) _
          have hl6 : Lies (w3.alloc (.cells #[.int .i64 (hiS s), .int .u64 (loN s), .int .i64 (hiS (wide v.coin)), .int .u64 (loN (wide v.coin))] 48)) w3.heap.size #[.int .i64 (hiS s), .int .u64 (loN s), .int .i64 (hiS (wide v.coin)), .int .u64 (loN (wide v.coin))] 48 := Lies.new _ _ _
          generalize w3.alloc (.cells #[.int .i64 (hiS s), .int .u64 (loN s), .int .i64 (hiS (wide v.coin)), .int .u64 (loN (wide v.coin))] 48) = w6 at hb6 hl6 ⊢
          have hc6 := hc3.trans (hb6.mono hc3.size)
          refine ⟨HS.out _ hc6, ?_⟩
          simp only [Act.put, List.setIfInBounds_toArray, List.set_cons_zero, List.set_cons_succ]
          have hplus := plus_two w6 w3.heap.size s (wide v.coin) hl6
          rw [wv_wC, ← hcv] at hplus
          refine held_one (i := 5) (by kernel_rfl) _ rfl (wpOp_callG rfl (by rfl) 23 rfl 36 #[.slice (some ⟨w3.heap.size, 0, none⟩) 2 2] (by unfold execOp; simp [go_sem]) _ (ret_of hplus) ?_)
          rintro v7 w7 ⟨rfl, hb7⟩
          have hc7 := hc6.trans (hb7.mono hc6.size)
          have hcur := HS.out _ hc7
          refine ⟨hcur, ?_⟩
          simp only [Act.put, List.setIfInBounds_toArray, List.set_cons_zero, List.set_cons_succ]
          have hw7 := HW5.out.step hc7
          have hw8 := hw7.sumTo (s + wide v.coin)
          rw [← hcv] at hw8
          have hv8 : Lies (w7.setRow (w.heap.size + 1 + 1) cv) wr.heap.size #[.int .i64 v.coin, .slice v.pa v.l.length v.c] 24 := hcur.setRowOther _ _ (by have := HR.out.1.sum.lt; omega)
          have hold7 : Lies w7 (w.heap.size + 1 + 1) #[.int .i64 (hiS s), .int .u64 (loN s)] 48 := hw7.sum
          refine held_one (i := 6) (by kernel_rfl) _ rfl (wpOp_storeRow rfl rfl 48 _ _ rfl (w.heap.size + 1 + 1) cv rfl rfl 48 #[.int .i64 (hiS s), .int .u64 (loN s)] hold7 (by rw [hcs]; exact info_wide) hcs.symm hc1 ?_)
          refine ⟨hv8, ?_⟩
          simp only [Act.put, List.setIfInBounds_toArray, List.set_cons_zero, List.set_cons_succ]
          generalize w7.setRow (w.heap.size + 1 + 1) cv = W8 at hw8 hv8 ⊢
          generalize Value.slice (some ⟨w3.heap.size, 0, none⟩) 2 2 = x22
          refine wpAnyH_done (by kernel_rfl) ?_ _
          exact hcont x22 W8 hw8 hv8
      case cont =>
        intro x22 W8 hw8 hv8
        unfold NoPanic
        dsimp only
        obtain ⟨pv, hpv⟩ : ∃ p, p = v.pa := ⟨_, rfl⟩
        obtain ⟨s1, hs1⟩ : ∃ x, x = s + wide v.coin := ⟨_, rfl⟩
        have c1 := hv8.cell 1 (v := .slice v.pa v.l.length v.c) rfl
        have hvl : (v.l.length : Int) ≤ 9223372036854775807 := by have := HR.out.2.2.1.2.2.1; unfold maxLen at this; omega
        rw [← hpv] at c1
        rw [← hs1] at hw8
        have HW8 := Lib.hid (And.intro hw8 (And.intro hpv hs1))
        obtain ⟨bv, hbv⟩ : ∃ b, b = wr.heap.size := ⟨_, rfl⟩
        rw [← hbv] at c1 ⊢
        clear hw8 hv8 hload hcur hbd hw5s hcv hcs hc1 hpv hs1 HS HW5 hbv
        go_upto_region 7 with fail
        go_loopw [27] (fun i W => ∃ j : Nat, j ≤ v.l.length ∧ i = .int .i64 j ∧ OnWay w W s1 (L ++ (ctsOf v).take j)) (fun i _ => v.l.length - (intOf i).toNat)
        case atStart => exact ⟨0, Nat.zero_le _, rfl, by simpa using HW8.out.1⟩
        case round =>
          obtain ⟨j, hj, rfl, hway⟩ := hrel
          by_cases hlt : j < v.l.length
          · have m1 : (j : Int) < (v.l.length : Int) := by omega
            have m0 : (0 : Int) ≤ (j : Int) := by omega
            obtain ⟨ga, oa, hpa, hga, hha⟩ := HR.out.2.2.1.2.2.2.2 (by omega)
            rw [← HW8.out.2.1] at hpa
            subst hpa
            obtain ⟨a, ha⟩ : ∃ a, a = v.l[j] := ⟨_, rfl⟩
            have hka : v.l[j]? = some a := by rw [ha, List.getElem?_eq_getElem hlt]
            have oka := HR.out.2.2.1.2.2.2.1 a (List.mem_of_getElem? hka)
            have hrg := (hha.below hway.below hga) j a hka
            obtain ⟨va, hva⟩ : ∃ v, v = asC a := ⟨_, rfl⟩
            obtain ⟨na, hna⟩ : ∃ v, v = nmC a.nm := ⟨_, rfl⟩
            have hvs : va.size = 34 := by rw [hva]; exact asC_size a oka.1
            have hv1 : va.all (·.oneCell') = true := by rw [hva]; exact asC_one a
            have h33 : va[33]? = some (.int .i64 a.amt) := by rw [hva]; exact asC_amt a oka.1
            rw [← hva] at hrg
            have hcall : ∀ W, Calls Tryz.prog 59 #[.agg va] W fun e w' => e = .returned (.agg na) ∧ Below W.heap.size W w' := fun W => by
              rw [hva, hna]; exact callAsset_any W a oka.1
            have hwide : ∀ W, Calls Tryz.prog 39 #[.int .i64 a.amt] W fun e w' => e = .returned (wv (wide a.amt)) ∧ Below W.heap.size W w' := fun W => wide_any W a.amt oka.2.2.1 oka.2.2.2
            obtain ⟨Lj, hLj⟩ : ∃ l, l = L ++ (ctsOf v).take j := ⟨_, rfl⟩
            have hLj' : L ++ (ctsOf v).take (j + 1) = Lj ++ [(a.nm, wide a.amt)] := by rw [hLj, ctsOf_take hka, List.append_assoc]
            have hLl : Lj.length < maxLen := by rw [hLj]; exact Nat.lt_of_le_of_lt (Nat.le_trans (HR.out.2.2.2.2.2 j hj) H.out.2) (by decide)
            rw [← hLj] at hway
            obtain ⟨x, hx⟩ : ∃ x, x = wide a.amt := ⟨_, rfl⟩
            rw [← hx] at hLj' hwide
            have hput : ∀ W D, W.ownsMap Tryz.prog 86 rdW (w.heap.size + 1) Lj.length D → HoldsF D (sumAt Lj) → Calls Tryz.prog 67 #[.map (some (w.heap.size + 1)), .agg na, wv x] W fun e w' => e = .returned (.tuple #[]) ∧ PutW W w' (w.heap.size + 1) (Lj.length + 1) (D.put (kN a.nm) (dW (sumAt Lj a.nm + x))) := fun W D h1 h2 => by
              rw [hna]; exact put_any W (w.heap.size + 1) Lj.length D (sumAt Lj) a.nm x h1 h2 hLl oka.1 oka.2.1
            have HI := Lib.hid (And.intro (show (Tryz.prog.info? 38).map (·.size) = some va.size by rw [hvs]; exact info_asset) (And.intro hcall (And.intro hwide hput)))
            have HJ := Lib.hid (And.intro hway (And.intro hlt (And.intro hLj' (And.intro oka (And.intro hvs (And.intro hv1 h33))))))
            have HRG := Lib.hid hrg
            clear hway hlt hj ha hka oka hva hna hvs hv1 h33 hha hga hrg hcall hwide hput hLj hLj' hLl hx
            go_upto_region 9 with (first
              | (refine wpList_load_mid rfl 38 _ rfl ga (oa + j * 34) rfl va.toList _ HRG.out Tryz.underlying38 rfl (by rw [Array.length_toList]; exact HI.out.1) ?_)
              | (refine wpList_store_row rfl 38 _ _ rfl wr.heap.size va rfl rfl 38 z34 (Lies.new wr z34 38) HI.out.1 (by rw [HJ.out.2.2.2.2.1]; kernel_rfl) HJ.out.2.2.2.2.2.1 ?_))
            rw [World.setRow_alloc_new]
            obtain ⟨b9, hb9⟩ : ∃ b, b = wr.heap.size := ⟨_, rfl⟩
            have hL9 : Lies (wr.alloc (.cells va 38)) b9 va 38 := by rw [hb9]; exact Lies.new _ _ _
            have hw9 : OnWay w (wr.alloc (.cells va 38)) s1 Lj := HJ.out.1.step ((Below.refl _ _).alloc (Nat.le_refl _) _)
            have hfar : w.heap.size + 1 + 1 < b9 := by rw [hb9]; exact HJ.out.1.sum.lt
            rw [← hb9]
            generalize wr.alloc (.cells va 38) = W9 at hL9 hw9 ⊢
            have HS9 : Hid (∀ U, Below W9.heap.size W9 U → Lies U b9 va 38) := Lib.hid fun U hU => hL9.below hU hL9.lt
            have HW9 := Lib.hid hw9
            clear hL9 hw9 hb9
            refine wp_region_noPanic (wp_region_held (S := fun U => Lies U b9 va 38) (by kernel_rfl) ?_)
            change wpAnyH _ _ _ _ _ 7 _ _ (World.drew W9)
            have hbd : Below W9.heap.size W9 W9.drew := (Below.refl _ _).drew
            generalize World.drew W9 = wd9 at hbd ⊢
            have hcur := HS9.out _ hbd
            refine held_take (i := 0) (v := (.map (some (w.heap.size + 1)))) rfl 31 rfl (by kernel_rfl) (by kernel_rfl) (by kernel_rfl) (fun _ _ _ h => h) (by rfl) (by intro w' hS'; unfold execOp; simp [go_sem]) hcur _ rfl ?_
            simp only [Act.put, List.setIfInBounds_toArray, List.set_cons_zero, List.set_cons_succ]
            refine held_take (i := 1) (v := (.agg va)) rfl 32 rfl (by kernel_rfl) (by kernel_rfl) (by kernel_rfl) (fun _ _ _ h => h) (by rfl) (by intro w' hS'; exact exec_loadM 38 _ rfl _ _ rfl va (range_lies hS') Tryz.underlying38 rfl HI.out.1) hcur _ rfl ?_
            simp only [Act.put, List.setIfInBounds_toArray, List.set_cons_zero, List.set_cons_succ]
            refine held_take (i := 3) (v := (.pointer (some ⟨b9, 33, none⟩))) rfl 34 rfl (by kernel_rfl) (by kernel_rfl) (by kernel_rfl) (fun _ _ _ h => h) (by rfl) (by intro w' hS'; unfold execOp; simp [go_sem]) hcur _ rfl ?_
            simp only [Act.put, List.setIfInBounds_toArray, List.set_cons_zero, List.set_cons_succ]
            refine held_take (i := 4) (v := (.int .i64 a.amt)) rfl 35 rfl (by kernel_rfl) (by kernel_rfl) (by kernel_rfl) (fun _ _ _ h => h) (by rfl) (by intro w' hS'; have hq := hS'.cell 33 HJ.out.2.2.2.2.2.2; unfold execOp; simp [go_sem, hq]) hcur _ rfl ?_
            simp only [Act.put, List.setIfInBounds_toArray, List.set_cons_zero, List.set_cons_succ]
            refine held_one (i := 2) (by kernel_rfl) _ rfl (wpOp_callG rfl (by rfl) 33 rfl 59 #[.agg va] (by unfold execOp; simp [go_sem]) _ (ret_of (HI.out.2.1 _)) ?_)
            rintro v1 w1 ⟨rfl, hb1⟩
            have hc1 := hbd.trans (hb1.mono hbd.size)
            refine ⟨HS9.out _ hc1, ?_⟩
            simp only [Act.put, List.setIfInBounds_toArray, List.set_cons_zero, List.set_cons_succ]
            refine held_one (i := 5) (by kernel_rfl) _ rfl (wpOp_callG rfl (by rfl) 36 rfl 39 #[.int .i64 a.amt] (by unfold execOp; simp [go_sem]) _ (ret_of (HI.out.2.2.1 _)) ?_)
            rintro v2 w2 ⟨rfl, hb2⟩
            have hc2 := hc1.trans (hb2.mono hc1.size)
            have hcur := HS9.out _ hc2
            refine ⟨hcur, ?_⟩
            simp only [Act.put, List.setIfInBounds_toArray, List.set_cons_zero, List.set_cons_succ]
            have hw2 := HW9.out.step hc2
            obtain ⟨D, hD, hDf⟩ := hw2.map
            refine held_one (i := 6) (by kernel_rfl) _ rfl (wpOp_callG rfl (by rfl) 37 rfl 67 #[.map (some (w.heap.size + 1)), .agg na, wv x] (by unfold execOp; simp [go_sem]) _ (ret_gro (HI.out.2.2.2 w2 D hD hDf)) ?_)
            rintro v3 w3 ⟨rfl, hp3⟩
            have hS3 : Lies w3 b9 va 38 := lies_grown hp3.2 hcur (by simp; omega)
            refine ⟨hS3, ?_⟩
            simp only [Act.put, List.setIfInBounds_toArray, List.set_cons_zero, List.set_cons_succ]
            have hw3 : OnWay w w3 s1 (Lj ++ [(a.nm, x)]) := hw2.put hDf hD.isMap a.nm x HJ.out.2.2.2.1.1 HJ.out.2.2.2.1.2.1 hp3
            have HE := Lib.hid hw3
            clear hw3 hw2 hD hDf hp3 hS3 hcur hc1 hc2 hb1 hb2 hbd
            refine wpAnyH_done (by kernel_rfl) ?_ _
            unfold NoPanic
            dsimp only
            go_wp2_with fail
            have e1 : (j : Int) + 1 = ((j + 1 : Nat) : Int) := by omega
            rw [e1]
            refine ⟨⟨j + 1, HJ.out.2.1, rfl, by rw [HJ.out.2.2.1]; exact HE.out⟩, ?_⟩
            have h := HJ.out.2.1
            show v.l.length - (j + 1) < v.l.length - j
            omega
          · have m1 : ¬ (j : Int) < (v.l.length : Int) := by omega
            have HE : Hid (OnWay w wr s1 (L ++ ctsOf v)) := Lib.hid (by
              have e : (ctsOf v).take j = ctsOf v := List.take_of_length_le (by unfold ctsOf; rw [List.length_map]; omega)
              rw [e] at hway; exact hway)
            clear hway hlt hj
            go_wp2_with fail
            have e1 : (k : Int) + 1 = ((k + 1 : Nat) : Int) := by omega
            rw [e1]
            refine ⟨⟨k + 1, HR.out.2.1, rfl, by rw [HR.out.2.2.2.1, HR.out.2.2.2.2.1, ← HW8.out.2.2]; exact HE.out⟩, ?_⟩
            have h := HR.out.2.1
            show vs.length - (k + 1) < vs.length - k
            omega
    · have m1 : ¬ (k : Int) < (vs.length : Int) := by omega
      have hkk : k = vs.length := by omega
      subst hkk
      rw [List.take_length] at hway
      have HE := Lib.hid hway
      clear hway hlt hk
      go_upto_region 12 with fail
      obtain ⟨cv, hcv⟩ : ∃ c, c = wC (coinS vs) := ⟨_, rfl⟩
      have hcs : cv.size = 2 := by rw [hcv]; rfl
      have hc1 : cv.all (·.oneCell') = true := by rw [hcv]; exact wC_one _
      have hret : wv (coinS vs) = .agg cv := by rw [hcv]; exact wv_wC _
      have hsum : Lies wr (w.heap.size + 1 + 1) cv 48 := by rw [hcv]; exact HE.out.sum
      have HS : Hid (∀ U, Below wr.heap.size wr U → Lies U (w.heap.size + 1 + 1) cv 48) := Lib.hid fun U hU => hsum.below hU hsum.lt
      have HI := Lib.hid (And.intro (show (Tryz.prog.info? 48).map (·.size) = some cv.size by rw [hcs]; exact info_wide) (And.intro hcs (And.intro hc1 hret)))
      have hsz1 : w.heap.size < wr.heap.size := by have := hsum.lt; omega
      clear hsum hcs hc1 hret hcv m1
      refine wp_region_noPanic (wp_region_held (S := fun U => Lies U (w.heap.size + 1 + 1) cv 48) (by kernel_rfl) ?_)
      change wpAnyH _ _ _ _ _ 5 _ _ (World.drew wr)
      have hbd : Below wr.heap.size wr wr.drew := (Below.refl _ _).drew
      generalize World.drew wr = wd at hbd ⊢
      have hcur := HS.out _ hbd
      refine held_take (i := 0) (v := (.agg cv)) rfl 40 rfl (by kernel_rfl) (by kernel_rfl) (by kernel_rfl) (fun _ _ _ h => h) (by rfl) (by intro w' hS'; exact exec_loadM 48 _ rfl _ _ rfl cv (range_lies hS') Tryz.underlying48 rfl HI.out.1) hcur _ rfl ?_
      simp only [Act.put, List.setIfInBounds_toArray, List.set_cons_zero, List.set_cons_succ]
      refine held_take (i := 1) (v := (.map (some (w.heap.size + 1)))) rfl 41 rfl (by kernel_rfl) (by kernel_rfl) (by kernel_rfl) (fun _ _ _ h => h) (by rfl) (by intro w' hS'; unfold execOp; simp [go_sem]) hcur _ rfl ?_
      simp only [Act.put, List.setIfInBounds_toArray, List.set_cons_zero, List.set_cons_succ]
      have hwd := HE.out.step hbd
      obtain ⟨D, hD, hDf⟩ := hwd.map
      have htot := HT.out wd (w.heap.size + 1) _ D _ hD hDf H.out.2 (fun m hm => by
        obtain ⟨p, hp, e⟩ := sumAt_mem hm
        rw [← e]
        exact HNM.out p hp)
      have htot2 : Calls Tryz.prog 68 #[.map (some (w.heap.size + 1))] wd fun e w' => ∃ v, e = .returned v ∧ (∃ pa l c, v = .slice pa l.length c ∧ RowT w' pa l ∧ IsTot (sumAt (ctsL vs)) (l.map fun t => (t.nm, t.w)) ∧ Below wd.heap.size wd w' ∧ Fresh wd.heap.size pa ∧ RoomT wd.heap.size w' pa l.length c) :=
        htot.mono fun e w' h => by
          obtain ⟨pa, l, c, h1, h2⟩ := h
          exact ⟨_, h1, pa, l, c, rfl, h2⟩
      refine held_one (i := 2) (by kernel_rfl) _ rfl (wpOp_callG rfl (by rfl) 42 rfl 68 #[.map (some (w.heap.size + 1))] (by unfold execOp; simp [go_sem]) _ htot2 ?_)
      rintro v1 w1 ⟨pt, lt, ct, rfl, hrow, htt, hb1, hfr1, hrm1⟩
      have hfr : Fresh w.heap.size pt := fun a e => Nat.le_trans (Nat.le_trans HE.out.below.size hbd.size) (hfr1 a e)
      clear hfr1
      have hc1 := hbd.trans (hb1.mono hbd.size)
      have hcur := HS.out _ hc1
      refine ⟨hcur, ?_⟩
      simp only [Act.put, List.setIfInBounds_toArray, List.set_cons_zero, List.set_cons_succ]
      have hw1 := HE.out.step hc1
      have hres : Lies w1 w.heap.size #[.int .i64 0, .int .u64 0] 48 := hw1.res
      refine held_one (i := 3) (by kernel_rfl) _ rfl (wpOp_storeRow rfl rfl 48 _ _ rfl w.heap.size cv rfl rfl 48 #[.int .i64 0, .int .u64 0] hres HI.out.1 HI.out.2.1.symm HI.out.2.2.1 ?_)
      have hbs := below_setRow hw1.below w.heap.size cv (Nat.le_refl _)
      have hrow2 : RowT (w1.setRow w.heap.size cv) pt lt := hrow.setRow w.heap.size cv hres (by decide)
      have hres2 : Lies (w1.setRow w.heap.size cv) w.heap.size cv 48 := hres.setRow _
      have hsum2 : Lies (w1.setRow w.heap.size cv) (w.heap.size + 1 + 1) cv 48 := hcur.setRowOther _ _ (by omega)
      refine ⟨hsum2, ?_⟩
      simp only [Act.put, List.setIfInBounds_toArray, List.set_cons_zero, List.set_cons_succ]
      have hrm2 : RoomT w.heap.size (w1.setRow w.heap.size cv) pt lt.length ct := (hrm1.setRow (Nat.lt_of_lt_of_le hsz1 hbd.size) cv).mono (Nat.le_trans HE.out.below.size hbd.size)
      generalize w1.setRow w.heap.size cv = w2 at hbs hrow2 hres2 hsum2 hrm2 ⊢
      have hcur := hsum2
      refine held_take (i := 4) (v := (.slice pt lt.length ct)) rfl 3 rfl (by kernel_rfl) (by kernel_rfl) (by kernel_rfl) (fun _ _ _ h => h) (by rfl) (by intro w' hS'; unfold execOp; simp [go_sem]) hcur _ rfl ?_
      simp only [Act.put, List.setIfInBounds_toArray, List.set_cons_zero, List.set_cons_succ]
      refine wpAnyH_done (by kernel_rfl) ?_ _
      unfold NoPanic
      dsimp only
      have HZ := Lib.hid (And.intro hbs (And.intro hrow2 (And.intro hres2 (And.intro htt (And.intro hfr hrm2)))))
      clear hbs hrow2 hres2 htt hfr hrm2 hrm1 hsz1 hsum2 hcur hres hw1 hc1 hb1 hrow htot htot2 hD hDf hwd hbd
      go_wp2_with fail
      refine bodyPost_ret (v := .tuple #[.agg cv, .slice pt lt.length ct]) (results_row_tmp (p := 2) (u := 3) (ty := 48) (by kernel_rfl) _ _ w.heap.size 48 cv (0, 0) _ rfl HZ.out.2.2.1 Tryz.underlying48 rfl HI.out.1) rfl ⟨⟨pt, lt, ct, by rw [HI.out.2.2.2], HZ.out.2.1, HZ.out.2.2.2.1, HZ.out.2.2.2.2⟩, HZ.out.1⟩
theorem sumsF_any (hT : TotalsAt) (w : World) (pa : Option Addr) (vs : List Va) (c : Nat) (h : RowV w pa vs) (hc : (ctsL vs).length ≤ 1000000) (hnm : ∀ p, p ∈ ctsL vs → p.1.1.length = 32 ∧ p.1.2.length ≤ 281474976710656) :
    Calls Tryz.prog 26 #[.slice pa vs.length c] w fun e w' => SumsResF vs w.heap.size w' e ∧ Below w.heap.size w w' :=
  (sumsR_any hT w pa vs c h hc hnm).mono fun _ _ ⟨⟨p, l, c', h1, h2, h3, h4, _⟩, h5⟩ => ⟨⟨p, l, c', h1, h2, h3, h4⟩, h5⟩
theorem sums_any (hT : TotalsAt) (w : World) (pa : Option Addr) (vs : List Va) (c : Nat) (h : RowV w pa vs) (hc : (ctsL vs).length ≤ 1000000) (hnm : ∀ p, p ∈ ctsL vs → p.1.1.length = 32 ∧ p.1.2.length ≤ 281474976710656) :
    Calls Tryz.prog 26 #[.slice pa vs.length c] w fun e w' => SumsRes vs w' e ∧ Below w.heap.size w w' :=
  (sumsF_any hT w pa vs c h hc hnm).mono fun _ _ ⟨⟨p, l, c', h1, h2, h3, _⟩, h5⟩ => ⟨⟨p, l, c', h1, h2, h3⟩, h5⟩
end Go.Proofs.YtjngghihciimjaaGreat
namespace Go.Proofs.YtjngghihciimjaaGreat
set_option maxRecDepth 100000
open Go.RowKit Go.Sort Go.Maps

/-- Totals as a bundle's assets. -/
def asT (tl : List To) : List As := tl.map fun t => ⟨t.nm, t.w.toNat⟩
def ctT (tl : List To) : List Ct := tl.map fun t => (t.nm, t.w)
/-- A bundle that has these sums. -/
def TogOk (x : BitVec 128) (f : Nm → BitVec 128) (coin : Int) (l : List As) : Prop :=
  fitsW x = true ∧ coin = x.toNat ∧ ∃ tl, IsTot f (ctT tl) ∧ tl.length ≤ 30 ∧ (∀ t, t ∈ tl → fitsW t.w = true) ∧ l = asT tl
theorem ctT_inj : ∀ {a b : List To}, ctT a = ctT b → a = b
  | [], [], _ => rfl
  | [], _ :: _, h => by simp [ctT] at h
  | _ :: _, [], h => by simp [ctT] at h
  | x :: a, y :: b, h => by
    simp only [ctT, List.map_cons, List.cons.injEq, Prod.mk.injEq] at h
    rw [(To.ext_iff' x y).2 h.1, ctT_inj (a := a) (b := b) h.2]
theorem TogOk.eq {x : BitVec 128} {f : Nm → BitVec 128} {c d : Int} {l m : List As} (h : TogOk x f c l) (k : TogOk x f d m) : c = d ∧ l = m := by
  obtain ⟨_, h1, tl, h2, _, _, h3⟩ := h
  obtain ⟨_, k1, tm, k2, _, _, k3⟩ := k
  exact ⟨h1.trans k1.symm, by rw [h3, k3, ctT_inj (h2.eq k2)]⟩
def TogNo (x : BitVec 128) (f : Nm → BitVec 128) : Prop := ∀ c l, ¬ TogOk x f c l
/-- A row that is told: in memory of the call's own, from block B on. -/
def Mine (B : Nat) (w : World) (pa : Option Addr) (l : List As) (c : Nat) : Prop := Row w pa l ∧ OwnAs w B (.slice pa l.length c) l
theorem Mine.mono {B B' : Nat} {w : World} {pa : Option Addr} {l : List As} {c : Nat} (h : Mine B w pa l c) (hb : B' ≤ B) : Mine B' w pa l c :=
  ⟨h.1, h.2.1, by
    rcases h.2.2 with h1 | ⟨g, cap, cur, h1, h2, h3⟩
    · exact .inl h1
    · exact .inr ⟨g, cap, cur, h1, Nat.le_trans hb h2, h3⟩⟩
theorem Mine.below {B : Nat} {w w' : World} {pa : Option Addr} {l : List As} {c : Nat} (h : Mine B w pa l c) (hb : Below w.heap.size w w') : Mine B w' pa l c := ⟨h.1.below hb (Nat.le_refl _), ownsRow_below h.2 hb⟩
def Tog (B : Nat) (x : BitVec 128) (f : Nm → BitVec 128) (w' : World) (e : Ending) : Prop :=
  (∃ coin l pa c, e = .returned (.agg (vC coin pa l.length c)) ∧ Mine B w' pa l c ∧ TogOk x f coin l) ∨ (Fault e ∧ TogNo x f)
theorem Fault.panic (n : Int) : Fault (.panicked [{ v := .iface 139 (.int .i64 n), recovered := false }]) := ⟨n, rfl⟩
theorem fits_nat {x : BitVec 128} (h : fitsW x = true) : x.toNat < 9223372036854775808 := by unfold fitsW at h; exact of_decide_eq_true h
def z35 : Array Value := (Array.replicate 32 (.int .u8 0)) ++ #[.string ⟨#[]⟩, .int .i64 0, .int .u64 0]
attribute [-go_sem] Instr.build Instr.buildSlice
/-- A world in the midst of the loop. -/
structure OnTog (w W : World) (B b5 : Nat) (coin : Int) (tl : List To) (k : Nat) (pt : Option Addr) : Prop where
  below : Below w.heap.size w W
  res : Lies W w.heap.size #[.int .i64 0, .slice none 0 0] 24
  tot : RowT W pt tl
  all : ∃ pk ck, Lies W b5 #[.int .i64 coin, .slice pk k ck] 24 ∧ OwnAs W B (.slice pk k ck) (asT (tl.take k))
  size : B ≤ W.heap.size
  far : b5 < B
  first : w.heap.size < b5
  blk : ∀ g off, pt = some ⟨g, off, none⟩ → 0 < tl.length → g < b5
set_option maxHeartbeats 4000000 in
theorem together_any (w : World) (pa : Option Addr) (vs : List Va) (c : Nat) (h : RowV w pa vs) (hc : (ctsL vs).length ≤ 1000000) (hnm : ∀ p, p ∈ ctsL vs → p.1.1.length = 32 ∧ p.1.2.length ≤ 281474976710656) :
    Calls Tryz.prog 52 #[.slice pa vs.length c] w fun e w' => Tog w.heap.size (coinS vs) (sumAt (ctsL vs)) w' e ∧ Below w.heap.size w w' := by
  obtain ⟨s, hs⟩ : ∃ s, s = coinS vs := ⟨_, rfl⟩
  obtain ⟨f, hf⟩ : ∃ f, f = sumAt (ctsL vs) := ⟨_, rfl⟩
  have hsums : ∀ W, Below w.heap.size w W → Calls Tryz.prog 26 #[.slice pa vs.length c] W fun e w' => (∃ p lt c', e = .returned (.tuple #[wv s, .slice p lt.length c']) ∧ RowT w' p lt ∧ IsTot f (ctT lt)) ∧ Below W.heap.size W w' := fun W hW =>
    (sums_any totals_any W pa vs c (h.below hW (Nat.le_refl _)) hc hnm).mono fun e w' hh => by
      obtain ⟨⟨p, l, c', h1, h2, h3⟩, h4⟩ := hh
      rw [← hs] at h1
      rw [← hf] at h3
      exact ⟨⟨p, l, c', h1, h2, h3⟩, h4⟩
  rw [← hs, ← hf]
  have H := Lib.hid hsums
  clear hsums h hc hnm hs hf
  go_enter Tryz.func52, Tryz.ntmps52
  go_wp2_with fail
  have hb1 : Below w.heap.size w (w.alloc (.cells #[.int .i64 0, .slice none 0 0] 24)) := (Below.refl _ _).alloc (Nat.le_refl _) _
  have hL1 : Lies (w.alloc (.cells #[.int .i64 0, .slice none 0 0] 24)) w.heap.size #[.int .i64 0, .slice none 0 0] 24 := Lies.new _ _ _
  refine (H.out _ hb1).mono ?_
  rintro e w2 ⟨⟨pt, lt, ct, rfl, hrow, htot⟩, hb2⟩
  have hbw2 := hb1.trans (hb2.mono hb1.size)
  have hL2 := hL1.below hb2 hL1.lt
  have hlt2 := hL2.lt
  generalize w.alloc (.cells #[.int .i64 0, .slice none 0 0] 24) = W1 at hb1 hL1 hb2 ⊢
  have H2 := Lib.hid (And.intro hbw2 (And.intro hL2 (And.intro hrow (And.intro htot hlt2))))
  clear hb1 hL1 hb2 hbw2 hL2 hrow htot hlt2
  clear W1
  unfold wv
  have hli : (lt.length : Int) ≤ 9223372036854775807 := by have := H2.out.2.2.1.1; unfold maxLen at this; omega
  go_upto_region 2 with fail
  have hb3 : Below w2.heap.size w2 (w2.alloc (.cells #[.int .i64 (hiS s), .int .u64 (loN s)] 48)) := (Below.refl _ _).alloc (Nat.le_refl _) _
  have hL3 : Lies (w2.alloc (.cells #[.int .i64 (hiS s), .int .u64 (loN s)] 48)) w2.heap.size #[.int .i64 (hiS s), .int .u64 (loN s)] 48 := Lies.new _ _ _
  generalize w2.alloc (.cells #[.int .i64 (hiS s), .int .u64 (loN s)] 48) = W3 at hb3 hL3 ⊢
  have c0 := hL3.cell 0 (v := .int .i64 (hiS s)) rfl
  have c1 := hL3.cell 1 (v := .int .u64 (loN s)) rfl
  have H3 := Lib.hid hb3
  clear hb3 hL3
  by_cases hlen : lt.length ≤ 30
  · have m1 : (lt.length : Int) ≤ 30 := by omega
    cases hx : fitsW s with
    | false =>
      have hcall : ∀ W, Calls Tryz.prog 86 #[.agg #[.int .i64 (hiS s), .int .u64 (loN s)]] W fun e w' => Fault e ∧ Below W.heap.size W w' := fun W =>
        (amounts_any W s).mono fun e w' hh => by
          rcases hh with ⟨⟨h1, _⟩ | ⟨_, h1⟩, h2⟩
          · rw [hx] at h1; cases h1
          · exact ⟨h1, h2⟩
      have HC := Lib.hid (And.intro hcall hx)
      clear hcall hx
      go_wp2_with fail
      refine (HC.out.1 _).mono ?_
      rintro e w4 ⟨⟨n, rfl⟩, hb4⟩
      exact ⟨rfl, .inr ⟨Fault.panic n, fun c l hk => by have := hk.1; rw [HC.out.2] at this; cases this⟩, H2.out.1.trans ((H3.out.trans (hb4.mono H3.out.size)).mono H2.out.1.size)⟩
    | true =>
      have hcall : ∀ W, Calls Tryz.prog 86 #[.agg #[.int .i64 (hiS s), .int .u64 (loN s)]] W fun e w' => e = .returned (.int .i64 s.toNat) ∧ Below W.heap.size W w' := fun W => amount_any W s hx
      have hbl : ∀ W, (Instr.build 24 #[(0, .int .i64 s.toNat)]).run Tryz.prog W = .ok (.agg #[.int .i64 s.toNat, .slice none 0 0]) W := fun W => run_build W 24 _ _ (by kernel_rfl)
      have HC := Lib.hid (And.intro hcall hx)
      clear hcall hx
      go_wp2_with fail
      refine (HC.out.1 _).mono ?_
      rintro e w4 ⟨rfl, hb4⟩
      have hb34 := H3.out.trans (hb4.mono H3.out.size)
      have HB4 := Lib.hid hb34
      clear hb34 hb4 c0 c1
      go_upto_region 6 with fail
      clear hbl
      obtain ⟨b5, hb5⟩ : ∃ b, b = w4.heap.size := ⟨_, rfl⟩
      have hL5 : Lies (w4.alloc (.cells #[.int .i64 s.toNat, .slice none 0 0] 24)) b5 #[.int .i64 s.toNat, .slice none 0 0] 24 := by rw [hb5]; exact Lies.new _ _ _
      have hb25 : Below w2.heap.size w2 (w4.alloc (.cells #[.int .i64 s.toNat, .slice none 0 0] 24)) := by
        have h1 : Below w2.heap.size w2 w4 := HB4.out
        exact h1.alloc h1.size _
      have hsz5 : (w4.alloc (.cells #[.int .i64 s.toNat, .slice none 0 0] 24)).heap.size = b5 + 1 := by rw [hb5]; simp
      have hfar : w.heap.size < b5 := by rw [hb5]; exact Nat.lt_of_lt_of_le H2.out.2.2.2.2 HB4.out.size
      rw [← hb5]
      generalize w4.alloc (.cells #[.int .i64 s.toNat, .slice none 0 0] 24) = W5 at hL5 hb25 hsz5 ⊢
      have hon5 : OnTog w W5 (b5 + 1) b5 s.toNat lt 0 pt := ⟨H2.out.1.trans (hb25.mono H2.out.1.size), H2.out.2.1.below hb25 H2.out.2.2.2.2, H2.out.2.2.1.below hb25 (Nat.le_refl _), ⟨none, 0, hL5, World.ownsRow_nil _ _ _ _⟩, by omega, by omega, hfar, fun g off e h0 => by
        obtain ⟨g', off', e', hlt, _⟩ := H2.out.2.2.1.2.2 h0
        rw [e] at e'
        cases e'
        rw [hb5]
        exact Nat.lt_of_lt_of_le hlt HB4.out.size⟩
      have H5 := Lib.hid hon5
      clear hL5 hb25 hsz5 hon5 hb5 hfar
      go_loopw [22] (fun i W => ∃ k : Nat, k ≤ lt.length ∧ i = .int .i64 k ∧ OnTog w W (b5 + 1) b5 s.toNat lt k pt ∧ ∀ t, t ∈ lt.take k → fitsW t.w = true) (fun i _ => lt.length - (intOf i).toNat)
      case atStart => exact ⟨0, Nat.zero_le _, rfl, H5.out, fun t ht => by simp at ht⟩
      case round =>
        obtain ⟨k, hk, rfl, hon, hall⟩ := hrel
        by_cases hlt : k < lt.length
        · have n1 : (k : Int) < (lt.length : Int) := by omega
          have n0 : (0 : Int) ≤ (k : Int) := by omega
          obtain ⟨g, off, rfl, hg, hh⟩ := hon.tot.2.2 (by omega)
          obtain ⟨t, ht⟩ : ∃ t, t = lt[k] := ⟨_, rfl⟩
          have hkt : lt[k]? = some t := by rw [ht, List.getElem?_eq_getElem hlt]
          have okt := hon.tot.2.1 t (List.mem_of_getElem? hkt)
          have hrg := hh k t hkt
          obtain ⟨ov, hov⟩ : ∃ v, v = toC t := ⟨_, rfl⟩
          have hos : ov.size = 35 := by rw [hov]; exact toC_size t okt.1
          have ho1 : ov.all (·.oneCell') = true := by rw [hov]; exact toC_one t
          rw [← hov] at hrg
          have HI := Lib.hid (And.intro (show (Tryz.prog.info? 75).map (·.size) = some ov.size by rw [hos]; exact info_total) (And.intro hos (And.intro ho1 hov)))
          have HJ := Lib.hid (And.intro hon (And.intro hlt (And.intro hkt (And.intro okt hall))))
          have HRG := Lib.hid hrg
          clear hon hlt hk ht hkt okt hrg hos ho1 hov hg hh hall H5
          go_upto_region 8 with (first
            | (refine wpList_load_mid rfl 75 _ rfl g (off + k * 35) rfl ov.toList _ HRG.out Tryz.underlying75 rfl (by rw [Array.length_toList]; exact HI.out.1) ?_)
            | (refine wpList_store_row rfl 75 _ _ rfl wr.heap.size ov rfl rfl 75 z35 (Lies.new wr z35 75) HI.out.1 (by rw [HI.out.2.1]; kernel_rfl) HI.out.2.2.1 ?_))
          rw [World.setRow_alloc_new]
          obtain ⟨b7, hb7⟩ : ∃ b, b = wr.heap.size := ⟨_, rfl⟩
          have hL7 : Lies (wr.alloc (.cells ov 75)) b7 ov 75 := by rw [hb7]; exact Lies.new _ _ _
          have hba : Below wr.heap.size wr (wr.alloc (.cells ov 75)) := (Below.refl _ _).alloc (Nat.le_refl _) _
          rw [← hb7]
          have hb7s : b5 + 1 ≤ b7 := by rw [hb7]; exact HJ.out.1.size
          generalize wr.alloc (.cells ov 75) = W7 at hL7 hba ⊢
          obtain ⟨pk, ck, hLk, howk⟩ := HJ.out.1.all
          have hLk7 := hLk.below hba hLk.lt
          have HS : Hid (∀ U, Below W7.heap.size W7 U → Lies U b5 #[.int .i64 s.toNat, .slice pk k ck] 24 ∧ Lies U b7 ov 75) := Lib.hid fun U hU => ⟨hLk7.below hU hLk7.lt, hL7.below hU hL7.lt⟩
          have how7 := ownsRow_below howk hba
          have H7 := Lib.hid (And.intro hba (And.intro how7 hb7s))
          clear hL7 hba hLk howk hLk7 how7 hb7 hb7s
          obtain ⟨pv, hpv⟩ : ∃ v, v = B8 t.nm.1 := ⟨_, rfl⟩
          obtain ⟨tv, htv⟩ : ∃ v, v = txt t.nm.2 := ⟨_, rfl⟩
          obtain ⟨av, hav⟩ : ∃ v, v = asC ⟨t.nm, t.w.toNat⟩ := ⟨_, rfl⟩
          have hbuilt : ∀ W, (Instr.build 38 #[(0, .agg pv), (1, .string tv), (2, .int .i64 t.w.toNat)]).run Tryz.prog W = .ok (.agg av) W := fun W => by
            rw [hpv, htv, hav]
            exact run_build W 38 _ _ (built_asset ⟨t.nm, t.w.toNat⟩ HJ.out.2.2.2.1.1)
          have hread : ∀ U, Lies U b7 ov 75 → U.rangeAt b7 0 pv.toList ∧ U.cell? ⟨b7, 32, none⟩ = some (.string tv) ∧ U.rangeAt b7 33 (#[Value.int .i64 (hiS t.w), .int .u64 (loN t.w)] : Array Value).toList := fun U hU => by
            rw [HI.out.2.2.2] at hU
            rw [hpv, htv]
            refine ⟨pol_range fun j hj => ?_, hU.cell 32 (toC_txt t HJ.out.2.2.2.1.1), fun j v hv => ?_⟩
            · rw [Nat.zero_add]
              exact hU.cell j (toC_get t HJ.out.2.2.2.1.1 j (by rw [← HJ.out.2.2.2.1.1]; exact hj))
            · have hj : j = 0 ∨ j = 1 := by have := (List.getElem?_eq_some_iff.1 hv).1; simp at this; omega
              rcases hj with rfl | rfl
              · simp at hv; subst hv; exact hU.cell 33 (toC_hi t HJ.out.2.2.2.1.1)
              · simp at hv; subst hv; exact hU.cell 34 (toC_lo t HJ.out.2.2.2.1.1)
          have hps : (Tryz.prog.info? 26).map (·.size) = some pv.size := by rw [hpv, B8_size, HJ.out.2.2.2.1.1]; exact info_hash
          have has : av.size = 34 := by rw [hav]; exact asC_size _ HJ.out.2.2.2.1.1
          have hsl : ∀ W : World, (Instr.buildSlice 22 1 #[(0, .agg av)]).run Tryz.prog W = .ok (.slice (some ⟨W.heap.size, 0, none⟩) 1 1) (W.alloc (.cells av 38)) := fun W => run_slice1 W 22 38 34 56 av Tryz.underlying22 info54 (by decide) (by decide) has
          have HQ := Lib.hid (And.intro hbuilt (And.intro hread (And.intro hps (And.intro has (And.intro hsl hav)))))
          clear hbuilt hread hps has hsl hav hpv htv
          refine wp_region_orPanic (fun c U => (∃ n, c = [{ v := .iface 139 (.int .i64 n), recovered := false }]) ∧ TogNo s f ∧ Below w.heap.size w U) (fun c a U h1 h2 => ⟨h1, .inr ⟨by obtain ⟨n, rfl⟩ := h2.1; exact Fault.panic n, h2.2.1⟩, h2.2.2⟩) ?_
          refine wp_region_late (fun j => j == 13) (fun U => Lies U b5 #[.int .i64 s.toNat, .slice pk k ck] 24 ∧ Lies U b7 ov 75) (by kernel_rfl) ?_
          change wpLate _ _ _ _ _ _ 14 _ _ (World.drew W7)
          have hbd : Below W7.heap.size W7 W7.drew := (Below.refl _ _).drew
          generalize World.drew W7 = wd at hbd ⊢
          have hcur := HS.out _ hbd
          refine late_take (i := 0) (v := (.pointer (some ⟨b5, 1, none⟩))) rfl 26 rfl (by kernel_rfl) (by kernel_rfl) (by kernel_rfl) (by kernel_rfl) (fun _ _ _ h => h) (by rfl) (by intro w' hS'; unfold execOp; simp [go_sem]) hcur _ rfl ?_
          simp only [Act.put, List.setIfInBounds_toArray, List.set_cons_zero, List.set_cons_succ]
          refine late_take (i := 1) (v := (.slice pk k ck)) rfl 27 rfl (by kernel_rfl) (by kernel_rfl) (by kernel_rfl) (by kernel_rfl) (fun _ _ _ h => h) (by rfl) (by intro w' hS'; have hq := hS'.1.cell 1 (v := .slice pk k ck) rfl; unfold execOp; simp [go_sem, hq]) hcur _ rfl ?_
          simp only [Act.put, List.setIfInBounds_toArray, List.set_cons_zero, List.set_cons_succ]
          refine late_take (i := 2) (v := (.pointer (some ⟨b7, 0, none⟩))) rfl 28 rfl (by kernel_rfl) (by kernel_rfl) (by kernel_rfl) (by kernel_rfl) (fun _ _ _ h => h) (by rfl) (by intro w' hS'; unfold execOp; simp [go_sem]) hcur _ rfl ?_
          simp only [Act.put, List.setIfInBounds_toArray, List.set_cons_zero, List.set_cons_succ]
          refine late_take (i := 3) (v := (.agg pv)) rfl 29 rfl (by kernel_rfl) (by kernel_rfl) (by kernel_rfl) (by kernel_rfl) (fun _ _ _ h => h) (by rfl) (by intro w' hS'; exact exec_loadM 26 _ rfl _ _ rfl pv (HQ.out.2.1 _ hS'.2).1 Tryz.underlying26 rfl HQ.out.2.2.1) hcur _ rfl ?_
          simp only [Act.put, List.setIfInBounds_toArray, List.set_cons_zero, List.set_cons_succ]
          refine late_take (i := 4) (v := (.pointer (some ⟨b7, 32, none⟩))) rfl 30 rfl (by kernel_rfl) (by kernel_rfl) (by kernel_rfl) (by kernel_rfl) (fun _ _ _ h => h) (by rfl) (by intro w' hS'; unfold execOp; simp [go_sem]) hcur _ rfl ?_
          simp only [Act.put, List.setIfInBounds_toArray, List.set_cons_zero, List.set_cons_succ]
          refine late_take (i := 5) (v := (.string tv)) rfl 31 rfl (by kernel_rfl) (by kernel_rfl) (by kernel_rfl) (by kernel_rfl) (fun _ _ _ h => h) (by rfl) (by intro w' hS'; have hq := (HQ.out.2.1 _ hS'.2).2.1; unfold execOp; simp [go_sem, hq]) hcur _ rfl ?_
          simp only [Act.put, List.setIfInBounds_toArray, List.set_cons_zero, List.set_cons_succ]
          refine late_take (i := 6) (v := (.pointer (some ⟨b7, 33, none⟩))) rfl 32 rfl (by kernel_rfl) (by kernel_rfl) (by kernel_rfl) (by kernel_rfl) (fun _ _ _ h => h) (by rfl) (by intro w' hS'; unfold execOp; simp [go_sem]) hcur _ rfl ?_
          simp only [Act.put, List.setIfInBounds_toArray, List.set_cons_zero, List.set_cons_succ]
          refine late_take (i := 7) (v := (.agg #[.int .i64 (hiS t.w), .int .u64 (loN t.w)])) rfl 33 rfl (by kernel_rfl) (by kernel_rfl) (by kernel_rfl) (by kernel_rfl) (fun _ _ _ h => h) (by rfl) (by intro w' hS'; exact exec_loadM 48 _ rfl _ _ rfl #[.int .i64 (hiS t.w), .int .u64 (loN t.w)] (HQ.out.2.1 _ hS'.2).2.2 Tryz.underlying48 rfl info_wide) hcur _ rfl ?_
          simp only [Act.put, List.setIfInBounds_toArray, List.set_cons_zero, List.set_cons_succ]
          have hamt : Calls Tryz.prog 86 #[.agg #[.int .i64 (hiS t.w), .int .u64 (loN t.w)]] wd fun e w' => (∃ v, e = .returned v ∧ (fitsW t.w = true ∧ v = .int .i64 t.w.toNat ∧ Below wd.heap.size wd w')) ∨ (∃ c, e = .panicked c ∧ (fitsW t.w = false ∧ (∃ n, c = [{ v := .iface 139 (.int .i64 n), recovered := false }]) ∧ Below wd.heap.size wd w')) :=
            (amounts_any wd t.w).mono fun e w' hh => by
              rcases hh with ⟨⟨h1, h2⟩ | ⟨h1, n, h2⟩, h3⟩
              · exact .inl ⟨_, h2, h1, rfl, h3⟩
              · exact .inr ⟨_, h2, h1, ⟨n, rfl⟩, h3⟩
          refine late_one (i := 8) (by kernel_rfl) _ rfl (wpOp_callP rfl (by rfl) 34 rfl 86 #[.agg #[.int .i64 (hiS t.w), .int .u64 (loN t.w)]] (by unfold execOp; simp [go_sem]) _ _ hamt ?_ ?_)
          rotate_left
          · rintro c8 w8 ⟨hx, ⟨n, rfl⟩, hb8⟩
            have hb := HJ.out.1.below.trans ((H7.out.1.trans ((hbd.trans (hb8.mono hbd.size)).mono H7.out.1.size)).mono HJ.out.1.below.size)
            refine ⟨rfl, ⟨n, rfl⟩, fun c l hk => ?_, hb⟩
            obtain ⟨_, _, tl, h1, _, h3, _⟩ := hk
            have h4 := h3 t (by rw [ctT_inj (h1.eq H2.out.2.2.2.1)]; exact List.mem_of_getElem? HJ.out.2.2.1)
            rw [hx] at h4
            cases h4
          rintro v8 w8 ⟨hx, rfl, hb8⟩
          have hc8 := hbd.trans (hb8.mono hbd.size)
          have hcur := HS.out _ hc8
          refine ⟨fun _ => hcur, ?_⟩
          simp only [Act.put, List.setIfInBounds_toArray, List.set_cons_zero, List.set_cons_succ]
          have hbq := HQ.out.1 w8
          refine late_one (i := 9) (by kernel_rfl) _ rfl (wpOp_valG (v := .agg av) (w' := w8) rfl (by rfl) 35 rfl (by unfold execOp; simp [go_sem, hbq]) ?_)
          refine ⟨fun _ => hcur, ?_⟩
          simp only [Act.put, List.setIfInBounds_toArray, List.set_cons_zero, List.set_cons_succ]
          have hsq := HQ.out.2.2.2.2.1 w8
          refine late_one (i := 10) (by kernel_rfl) _ rfl (wpOp_valG (v := .slice (some ⟨w8.heap.size, 0, none⟩) 1 1) (w' := w8.alloc (.cells av 38)) rfl (by rfl) 36 rfl (by unfold execOp; simp [go_sem, hsq]) ?_)
          have hb10 : Below w8.heap.size w8 (w8.alloc (.cells av 38)) := (Below.refl _ _).alloc (Nat.le_refl _) _
          have hL10 : Lies (w8.alloc (.cells av 38)) w8.heap.size av 38 := Lies.new _ _ _
          clear hbq hsq
          obtain ⟨g10, hg10⟩ : ∃ g, g = w8.heap.size := ⟨_, rfl⟩
          generalize w8.alloc (.cells av 38) = w10 at hb10 hL10 ⊢
          rw [← hg10] at hL10 hb10 ⊢
          have hc10 : Below W7.heap.size W7 w10 := hc8.trans (hb10.mono (by rw [hg10]; exact hc8.size))
          have hcur := HS.out _ hc10
          refine ⟨fun _ => hcur, ?_⟩
          simp only [Act.put, List.setIfInBounds_toArray, List.set_cons_zero, List.set_cons_succ]
          have how10 : OwnAs w10 (b5 + 1) (.slice pk k ck) (asT (lt.take k)) := ownsRow_below H7.out.2.1 hc10
          have hlk : (asT (lt.take k)).length = k := by unfold asT; rw [List.length_map, List.length_take]; have := HJ.out.2.1; omega
          have hown10 : w10.ownsRow (b5 + 1) 38 34 (.slice pk k ck) k (cellsF asC (asT (lt.take k))) := by
            have h1 := how10
            unfold OwnAs at h1
            rw [hlk] at h1
            exact h1
          have hk30 : k + 1 ≤ 1000000 := by have := HJ.out.2.1; omega
          refine late_one (i := 11) (by kernel_rfl) _ rfl (wpOp_append rfl rfl 37 rfl _ _ 22 rfl (b5 + 1) 38 34 56 Tryz.underlying22 info54 (by decide) (.slice pk k ck) k (cellsF asC (asT (lt.take k))) rfl hown10 ⟨g10, 0, none⟩ 1 1 (cellsF asC [⟨t.nm, t.w.toNat⟩]) rfl (cellsF_len asC 34 [⟨t.nm, t.w.toNat⟩] (fun a ha => by rw [List.mem_singleton] at ha; subst ha; exact asC_size _ HJ.out.2.2.2.1.1)) (src_one asC (by rw [← HQ.out.2.2.2.2.2]; exact hL10)) (cellsF_one asC _ fun a _ => asC_one a) (by decide) (Nat.le_trans hk30 (by decide)) (by omega) (by have := H7.out.2.2; have := hcur.2.lt; omega) ?_)
          intro g11 cap11 w11 hown11 hgr11 hat11 hlt11
          have hS11 : Lies w11 b5 #[.int .i64 s.toNat, .slice pk k ck] 24 ∧ Lies w11 b7 ov 75 := ⟨lies_grown hgr11 hcur.1 (ownsRow_far how10 hcur.1 (by decide)), lies_grown hgr11 hcur.2 (ownsRow_far how10 hcur.2 (by decide))⟩
          refine ⟨fun _ => hS11, ?_⟩
          simp only [Act.put, List.setIfInBounds_toArray, List.set_cons_zero, List.set_cons_succ]
          refine late_one (i := 12) (by kernel_rfl) _ rfl (wpOp_valG (v := .pointer (some ⟨b5, 1, none⟩)) (w' := w11) rfl (by rfl) 38 rfl (by unfold execOp; simp [go_sem]) ?_)
          refine ⟨fun _ => hS11, ?_⟩
          simp only [Act.put, List.setIfInBounds_toArray, List.set_cons_zero, List.set_cons_succ]
          have hq11 := hS11.1.cell 1 (v := .slice pk k ck) rfl
          have hf11 := hS11.1.free 1
          refine late_one (i := 13) (by kernel_rfl) _ rfl (wpOp_skipG (w' := w11.setCell ⟨b5, 1, none⟩ (.slice (some ⟨g11, 0, none⟩) (k + 1) cap11)) rfl (by rfl) rfl (by unfold execOp; simp [go_sem, hq11, hf11]) ?_)
          refine ⟨fun h => absurd h (by decide), ?_⟩
          have hblk : ∀ j, (Value.slice pk k ck).ownBlock = some j → b5 + 1 ≤ j := fun j hj => (how10.lt j hj).1
          have hb710 : Below wr.heap.size wr w10 := H7.out.1.trans (hc10.mono H7.out.1.size)
          have hg13 := grown_setCell w11 ⟨b5, 1, none⟩ (.slice (some ⟨g11, 0, none⟩) (k + 1) cap11)
          have hsz : b5 + 1 ≤ w10.heap.size := by have := H7.out.2.2; have := hcur.2.lt; omega
          have hon13 : OnTog w (w11.setCell ⟨b5, 1, none⟩ (.slice (some ⟨g11, 0, none⟩) (k + 1) cap11)) (b5 + 1) b5 s.toNat lt (k + 1) (some ⟨g, off, none⟩) := by
            have hB := HJ.out.1
            have h10 : Below w.heap.size w w10 := hB.below.trans (hb710.mono hB.below.size)
            have hr10 : Lies w10 w.heap.size #[.int .i64 0, .slice none 0 0] 24 := hB.res.below hb710 hB.res.lt
            have ht10 : RowT w10 (some ⟨g, off, none⟩) lt := hB.tot.below hb710 (Nat.le_refl _)
            have hf := hB.first
            refine ⟨below_setCell (h10.grown hgr11 h10.size (fun j hj => by have := hblk j hj; omega)) _ _ (by show w.heap.size ≤ b5; omega), (lies_grown hgr11 hr10 (ownsRow_far how10 hr10 (by decide))).other _ _ (by show w.heap.size ≠ b5; omega), (ht10.but hgr11 (fun g' off' e h0 e2 => ?_)).but hg13 (fun g' off' e h0 e2 => ?_), ⟨some ⟨g11, 0, none⟩, cap11, hS11.1.set 1 _, ?_⟩, Nat.le_trans hsz (Nat.le_trans hgr11.size hg13.size), hB.far, hf, hB.blk⟩
            · have h1 := hblk g' e2.symm
              have h2 := hB.blk g' off' e h0
              omega
            · have h1 : g' = b5 := Option.some.inj e2
              have h2 := hB.blk g' off' e h0
              omega
            · have htk : asT (lt.take (k + 1)) = asT (lt.take k) ++ [⟨t.nm, t.w.toNat⟩] := by
                rw [List.take_add_one, HJ.out.2.2.1]
                simp [asT]
              have h1 : OwnAs w11 (b5 + 1) (.slice (some ⟨g11, 0, none⟩) (k + 1) cap11) (asT (lt.take (k + 1))) := by
                unfold OwnAs
                rw [htk, cellsF_app, List.length_append, hlk]
                exact hown11
              refine World.ownsRow.kept h1 hg13 (.inr fun e2 => ?_)
              have h3 : g11 = b5 := Option.some.inj e2
              have h4 := (h1.lt g11 rfl).1
              omega
          have hall13 : ∀ u, u ∈ lt.take (k + 1) → fitsW u.w = true := fun u hu => by
            rw [List.take_add_one, HJ.out.2.2.1] at hu
            rcases List.mem_append.1 hu with hu | hu
            · exact HJ.out.2.2.2.2 u hu
            · have : u = t := by simpa using hu
              rw [this]; exact hx
          generalize w11.setCell ⟨b5, 1, none⟩ (.slice (some ⟨g11, 0, none⟩) (k + 1) cap11) = w13 at hon13 ⊢
          have HE := Lib.hid (And.intro hon13 (And.intro hall13 HJ.out.2.1))
          clear hon13 hall13 hsz hg13 hb710 hblk hq11 hf11 hS11 hown11 hgr11 hat11 hlt11 hown10 how10 hlk hk30 hcur hc10 hb10 hL10 hc8 hb8 hx hbd hamt
          refine late_done (by kernel_rfl) ?_ _
          unfold OrPanic
          dsimp only
          go_wp2_with fail
          have e1 : (k : Int) + 1 = ((k + 1 : Nat) : Int) := by omega
          rw [e1]
          refine ⟨⟨k + 1, HE.out.2.2, rfl, HE.out.1, HE.out.2.1⟩, ?_⟩
          have h := HE.out.2.2
          show lt.length - (k + 1) < lt.length - k
          omega
        · have n1 : ¬ (k : Int) < (lt.length : Int) := by omega
          have hkl : k = lt.length := by omega
          subst hkl
          rw [List.take_length] at hall
          obtain ⟨pk, ck, hLk, howk⟩ := hon.all
          rw [List.take_length] at howk
          have c0 := hLk.cell 0 (v := .int .i64 s.toNat) rfl
          have c1 := hLk.cell 1 (v := .slice pk lt.length ck) rfl
          have q0 := hon.res.cell 0 (v := .int .i64 0) rfl
          have q1 := hon.res.cell 1 (v := .slice none 0 0) rfl
          have f0 := hon.res.free 0
          have f1 := hon.res.free 1
          have hok : ∀ a, a ∈ asT lt → AsOk a := fun a ha => by
            obtain ⟨t, ht, rfl⟩ := List.mem_map.1 ha
            have h1 := hon.tot.2.1 t ht
            have h2 := fits_nat (hall t ht)
            refine ⟨h1.1, h1.2, ?_, ?_⟩
            · show (-9223372036854775808 : Int) ≤ (t.w.toNat : Int)
              omega
            · show (t.w.toNat : Int) < 9223372036854775808
              omega
          have hlt : (asT lt).length = lt.length := by unfold asT; rw [List.length_map]
          have hfirst := hon.first
          have hrow2 : Row ((wr.setCell ⟨w.heap.size, 0, none⟩ (.int .i64 s.toNat)).setCell ⟨w.heap.size, 1, none⟩ (.slice pk lt.length ck)) pk (asT lt) := ⟨by rw [hlt]; exact hon.tot.1, hok, fun h0 => by
            have h1 := howk
            unfold OwnAs at h1
            rcases own_at asC 34 (fun a ha => asC_size a (hok a ha).1) h1 with ⟨_, h2⟩ | ⟨g, cap, h1, h2, h3, h4, h5, h6⟩
            · rw [h2] at h0; simp at h0
            · simp only [Value.slice.injEq] at h1
              refine ⟨g, 0, h1.1, by rw [size_set, size_set]; exact h3, fun i a hi j v hv => ?_⟩
              exact (World.cell?_of_block ((heap_setCell_other _ _ g _ (by show g ≠ w.heap.size; omega)).trans (heap_setCell_other _ _ g _ (by show g ≠ w.heap.size; omega)))).trans (h5 i a hi j v hv)⟩
          have hbR : Below w.heap.size w ((wr.setCell ⟨w.heap.size, 0, none⟩ (.int .i64 s.toNat)).setCell ⟨w.heap.size, 1, none⟩ (.slice pk lt.length ck)) := below_setCell (below_setCell hon.below _ _ (by simp)) _ _ (by simp)
          have hLR : Lies ((wr.setCell ⟨w.heap.size, 0, none⟩ (.int .i64 s.toNat)).setCell ⟨w.heap.size, 1, none⟩ (.slice pk lt.length ck)) w.heap.size #[.int .i64 s.toNat, .slice pk lt.length ck] 24 := (hon.res.set 0 _).set 1 _
          have hok2 : TogOk s f s.toNat (asT lt) := ⟨HC.out.2, rfl, lt, H2.out.2.2.2.1, hlen, hall, rfl⟩
          have hmine : Mine w.heap.size ((wr.setCell ⟨w.heap.size, 0, none⟩ (.int .i64 s.toNat)).setCell ⟨w.heap.size, 1, none⟩ (.slice pk lt.length ck)) pk (asT lt) ck := by
            refine Mine.mono (B := b5 + 1) ⟨hrow2, ?_⟩ (by omega)
            rw [hlt]
            have hne : (Value.slice pk lt.length ck).ownBlock ≠ some w.heap.size := fun e => by have := (howk.lt _ e).1; omega
            exact (howk.kept (grown_setCell wr _ _) (.inr hne)).kept (grown_setCell _ _ _) (.inr hne)
          have HE := Lib.hid (And.intro hmine (And.intro hbR (And.intro hLR (And.intro hok2 hlt))))
          clear hmine hrow2 hbR hLR hok2 hlt hok hfirst hLk howk hon hall hk H5
          go_wp2_with fail
          refine bodyPost_ret (v := .agg #[.int .i64 s.toNat, .slice pk lt.length ck]) (results_cell_row (p := 2) (ty := 24) (by kernel_rfl) _ _ w.heap.size 24 #[.int .i64 s.toNat, .slice pk lt.length ck] (0, 0) _ rfl HE.out.2.2.1 Tryz.underlying24 rfl info_value) rfl ⟨.inl ⟨s.toNat, asT lt, pk, ck, by rw [HE.out.2.2.2.2]; rfl, HE.out.1, HE.out.2.2.2.1⟩, HE.out.2.1⟩
  · have m1 : ¬ (lt.length : Int) ≤ 30 := by omega
    go_wp2_with fail
    exact ⟨rfl, .inr ⟨Fault.panic _, fun c l hk => by
      obtain ⟨_, _, tl, h1, h2, _, _⟩ := hk
      rw [ctT_inj (h1.eq H2.out.2.2.2.1)] at h2
      exact hlen h2⟩, H2.out.1.trans (H3.out.mono H2.out.1.size)⟩
end Go.Proofs.YtjngghihciimjaaGreat
