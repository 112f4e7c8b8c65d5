/-
  WotsBelow: of two messages some digit is below and some above; a chain is gone on to from the lower one's.
-/
import Derived.Test.YtgempifedhiknaaDoorWsh
import Derived.Outline
import Derived.Deep.QuietTactic
namespace Go.Proofs.YtgempifedhiknaaDoor
open Go.RowKit Go.Shelf Sha

theorem digv_stays (m : List UInt8) : Stays (DigV m) := by
  rintro v w w' hb ⟨g, c, rfl, h1, h2⟩
  exact ⟨g, c, rfl, h1, h2.below hb h2.1⟩
theorem below_drewN {B : Nat} {w w' : World} (h : Below B w w') (n : Nat) : Below B w (w'.drewN n) := ⟨h.os, h.tape, h.output, h.size, h.block⟩
theorem hash_sign {V : World} {g : Nat} {xs m : List UInt8} (hs : Src V g 0 (signL xs m)) (hg : g < V.heap.size) (i : Nat) (hi : i < 35) : HashAt V g (i * 32) (sigH xs m i) := by
  have h := hash_src hs hg i (by rw [signL_length]; omega)
  have e := hashAt_sign xs m i hi
  unfold hashAt at e
  rw [if_pos hi, Nat.mul_comm] at e
  rw [e, Nat.zero_add] at h
  exact h
theorem wpOp_alloc26 {ops : Array Oper} {Q : Exit → Act → World → Prop} {i : Nat} {o : Oper} {a : Act} {w : World} {K : Act → World → Prop} (hi : ops[i]? = some o) (hg : o.guard = none) (d : Tmp) (hd : o.dst = some d) (ho : o.op = .alloc 26)
    (h : K (a.put (some d) (.pointer (some ⟨w.heap.size, 0, none⟩))) (w.alloc (.cells z32 26))) : wpOp Tryd.prog ops Q i K a w := by
  rw [← hd] at h
  exact wpOp_wp hi hg (wp_alloc27 ho h)
theorem wpOp_storeRow {ops : Array Oper} {Q : Exit → Act → World → Prop} {i : Nat} {o : Oper} {a : Act} {w : World} {K : Act → World → Prop} (hi : ops[i]? = some o) (hg : o.guard = none) (hd : o.dst = none) (ty : TypeId) (x y : Operand) (ho : o.op = .store ty x y)
    (g : Nat) (cells : Array Value) (hx : a.eval x = .pointer (some ⟨g, 0, none⟩)) (hy : a.eval y = .agg cells) (t : TypeId) (old : Array Value) (hgo : w.heap[g]? = some (.cells old t (0, 0))) (hin : (Tryd.prog.info? ty).map (·.size) = some cells.size)
    (hold : old.size = cells.size) (h1 : cells.all (·.oneCell') = true) (h : K a (w.setRow g cells)) : wpOp Tryd.prog ops Q i K a w := by
  refine wpOp_wp hi hg (wp_store_row ty x y ho g cells hx hy t old hgo hin hold h1 ?_)
  rw [hd]
  exact h
set_option maxRecDepth 100000 in
set_option maxHeartbeats 2000000 in
theorem belowlaw_any (w : World) (pa : Option Addr) (xs : List UInt8) (pc : Nat) (a b : List UInt8) (ha : a.length = 32) (hb : b.length = 32) (hx : xs.length ≤ maxLen) (hg : Good w ⟨pa, xs, pc⟩) (hs : Starts w) (hc : Cubes w) :
    Calls Tryd.prog 6 #[.slice pa xs.length pc, .agg (B8 a), .agg (B8 b)] w fun e w' => e = .returned (.bool true) ∧ Below w.heap.size w w' := by
  obtain ⟨av, hav⟩ : ∃ mv, mv = B8 a := ⟨_, rfl⟩
  obtain ⟨bv, hbv⟩ : ∃ mv, mv = B8 b := ⟨_, rfl⟩
  have ha32 : av.size = 32 := by rw [hav, B8_size, ha]
  have hb32 : bv.size = 32 := by rw [hbv, B8_size, hb]
  rw [← hav, ← hbv]
  have HA := Lib.hid (And.intro hav (And.intro ha32 ha))
  have HB := Lib.hid (And.intro hbv (And.intro hb32 hb))
  have HSC := Lib.hid (And.intro hs (And.intro hc hg))
  have hxi : (xs.length : Int) ≤ 9223372036854775807 := by unfold maxLen at hx; omega
  clear hav hbv ha32 hb32 ha hb hs hc hg hx
  go_enter Tryd.func6, Tryd.ntmps6
  go_upto_region 1 with fail
  have hLA : Lies ((w.alloc (.cells av 26)).alloc (.cells bv 26)) w.heap.size av 26 := (Lies.new _ _ _).alloc _
  have hLB : Lies ((w.alloc (.cells av 26)).alloc (.cells bv 26)) (w.heap.size + 1) bv 26 := by
    have := Lies.new (w.alloc (.cells av 26)) bv 26
    simpa using this
  have hb0 : Below w.heap.size w ((w.alloc (.cells av 26)).alloc (.cells bv 26)) := ((Below.refl _ _).alloc (Nat.le_refl _) _).alloc (by simp) _
  generalize (w.alloc (.cells av 26)).alloc (.cells bv 26) = W0 at hLA hLB hb0 ⊢
  have h1n := Lies.lt HSC.out.2.1
  have hk : ∀ V, Below W0.heap.size W0 V → Starts V ∧ Cubes V ∧ Good V ⟨pa, xs, pc⟩ ∧ Below w.heap.size w V ∧ Lies V w.heap.size av 26 ∧ Lies V (w.heap.size + 1) bv 26 := fun V hV => by
    have hbv := hb0.trans (hV.mono hb0.size)
    exact ⟨HSC.out.1.below hbv (by omega), HSC.out.2.1.below hbv h1n, HSC.out.2.2.below hbv, hbv, hLA.below hV hLA.lt, hLB.below hV hLB.lt⟩
  have HK := Lib.hid hk
  clear hLA hLB hb0 hk h1n
  go_wp2_with fail
  refine (awake_any W0 (HK.out _ (Below.refl _ _)).1 (HK.out _ (Below.refl _ _)).2.1).mono ?_
  rintro e w1 ⟨rfl, hb1⟩
  by_cases hlong : 300 < xs.length
  · have m1 : (300 : Int) < (xs.length : Int) := by omega
    have hend := (HK.out _ hb1).2.2.2.1
    clear hlong hb1
    go_wp2_with fail
    go_ret
    exact ⟨rfl, hend⟩
  · have m1 : decide ((300 : Int) < (xs.length : Int)) = false := by simp; omega
    have hx9 : xs.length ≤ 900000 := by omega
    have HX := Lib.hid hx9
    have HB1 := Lib.hid hb1
    clear hlong hx9 hb1
    go_upto_region 5 with fail
    have hk1 : ∀ V, Below w1.heap.size w1 V → Below W0.heap.size W0 V := fun V hV => HB1.out.trans (hV.mono HB1.out.size)
    have HK1 := Lib.hid hk1
    have sizeA : (Tryd.prog.info? 26).map (·.size) = some av.toList.length := by rw [Array.length_toList, HA.out.2.1]; kernel_rfl
    have sizeB : (Tryd.prog.info? 26).map (·.size) = some bv.toList.length := by rw [Array.length_toList, HB.out.2.1]; kernel_rfl
    have SA := Lib.hid (And.intro sizeA sizeB)
    clear hk1 sizeA sizeB
    refine wp_region_held (S := Below w1.heap.size w1) (by kernel_rfl) ?_
    change wpAnyH _ _ _ _ _ 6 _ _ (World.drew w1)
    have hcur : Below w1.heap.size w1 w1.drew := (Below.refl _ _).drew
    refine held_take (i := 0) (v := (.agg av)) rfl 23 rfl (by kernel_rfl) (by kernel_rfl) (by kernel_rfl) (fun _ _ _ h => h) (by rfl) (by intro w' hS'; exact exec_loadA _ rfl _ _ rfl (range_lies (HK.out _ (HK1.out _ hS')).2.2.2.2.1) SA.out.1) hcur _ rfl ?_
    simp only [Act.put, List.setIfInBounds_toArray, List.set_cons_zero, List.set_cons_succ]
    refine held_take (i := 2) (v := (.agg bv)) rfl 25 rfl (by kernel_rfl) (by kernel_rfl) (by kernel_rfl) (fun _ _ _ h => h) (by rfl) (by intro w' hS'; exact exec_loadA _ rfl _ _ rfl (range_lies (HK.out _ (HK1.out _ hS')).2.2.2.2.2) SA.out.2) hcur _ rfl ?_
    simp only [Act.put, List.setIfInBounds_toArray, List.set_cons_zero, List.set_cons_succ]
    refine calls2_any w1 (DigV a) (DigV b) (digv_stays a) (digv_stays b) _ 24 26 7 8 (by decide) (by decide) (by decide) (by decide) (by decide) (by decide) (by show (24 : Nat) < 144; decide) (by show (26 : Nat) < 144; decide)
      17 17 #[.agg av] #[.agg bv] _ _ _ _ rfl rfl rfl (fun _ _ _ _ _ => by kernel_rfl) rfl rfl rfl (fun _ _ _ _ _ => by kernel_rfl) rfl rfl rfl rfl rfl rfl rfl rfl (by kernel_rfl) ?hc1 ?hc2 ?hQ _ hcur
    case hc1 => exact fun W _ => by rw [HA.out.1]; exact dig_any a HA.out.2.2 W
    case hc2 => exact fun W _ => by rw [HB.out.1]; exact dig_any b HB.out.2.2 W
    rintro v1 v2 w2 ⟨g1, c1, rfl, hc1, hi1⟩ ⟨g2, c2, rfl, hc2, hi2⟩ hb2
    simp only [put4, Act.put, List.setIfInBounds_toArray, List.set_cons_zero, List.set_cons_succ]
    have H2 := Lib.hid (And.intro (HK1.out _ hb2) (And.intro hi1 hi2))
    clear hi1 hi2 hb2 hcur HK1
    go_upto_region 6 with fail
    have hk2 : ∀ V, Below w2.heap.size w2 V → Below W0.heap.size W0 V := fun V hV => H2.out.1.trans (hV.mono H2.out.1.size)
    have HK2 := Lib.hid hk2
    clear hk2
    refine wp_region_held (S := Below w2.heap.size w2) (by kernel_rfl) ?_
    change wpAnyH _ _ _ _ _ 10 _ _ (World.drew w2)
    have hcur : Below w2.heap.size w2 w2.drew := (Below.refl _ _).drew
    refine held_take (i := 0) (v := (.slice pa xs.length pc)) rfl 27 rfl (by kernel_rfl) (by kernel_rfl) (by kernel_rfl) (fun _ _ _ h => h) (by rfl) (by intro w' hS'; unfold execOp; simp [go_sem]) hcur _ rfl ?_
    simp only [Act.put, List.setIfInBounds_toArray, List.set_cons_zero, List.set_cons_succ]
    refine held_take (i := 1) (v := (.agg av)) rfl 28 rfl (by kernel_rfl) (by kernel_rfl) (by kernel_rfl) (fun _ _ _ h => h) (by rfl) (by intro w' hS'; exact exec_loadA _ rfl _ _ rfl (range_lies (HK.out _ (HK2.out _ hS')).2.2.2.2.1) SA.out.1) hcur _ rfl ?_
    simp only [Act.put, List.setIfInBounds_toArray, List.set_cons_zero, List.set_cons_succ]
    refine held_take (i := 3) (v := (.slice pa xs.length pc)) rfl 30 rfl (by kernel_rfl) (by kernel_rfl) (by kernel_rfl) (fun _ _ _ h => h) (by rfl) (by intro w' hS'; unfold execOp; simp [go_sem]) hcur _ rfl ?_
    simp only [Act.put, List.setIfInBounds_toArray, List.set_cons_zero, List.set_cons_succ]
    refine held_take (i := 4) (v := (.agg bv)) rfl 31 rfl (by kernel_rfl) (by kernel_rfl) (by kernel_rfl) (fun _ _ _ h => h) (by rfl) (by intro w' hS'; exact exec_loadA _ rfl _ _ rfl (range_lies (HK.out _ (HK2.out _ hS')).2.2.2.2.2) SA.out.2) hcur _ rfl ?_
    simp only [Act.put, List.setIfInBounds_toArray, List.set_cons_zero, List.set_cons_succ]
    refine signs2_any w2 (signL xs a) (signL xs b) _ 29 32 9 10 (by decide) (by decide) (by decide) (by decide) (by decide) (by decide) (by show (29 : Nat) < 144; decide) (by show (32 : Nat) < 144; decide) (by show (9 : Nat) < 144; decide) (by show (10 : Nat) < 144; decide)
      14 #[.slice pa xs.length pc, .agg av] #[.slice pa xs.length pc, .agg bv] _ _ _ _ _ _ rfl rfl rfl (fun _ _ _ _ _ => by kernel_rfl) rfl rfl rfl (fun _ _ _ _ _ => by kernel_rfl) rfl rfl rfl rfl rfl rfl rfl rfl rfl rfl rfl rfl rfl rfl rfl rfl (by kernel_rfl) ?hd1 ?hd2 ?hR _ hcur
    case hd1 =>
      intro W hW
      have h := HK.out _ (HK2.out _ hW)
      rw [HA.out.1]
      exact (sign_any W pa xs pc a HA.out.2.2 HX.out h.2.2.1 h.1 h.2.1).mono fun e w' ⟨v, he, hr, hb⟩ => ⟨_, he, sigv_of hr, hb⟩
    case hd2 =>
      intro W hW
      have h := HK.out _ (HK2.out _ hW)
      rw [HB.out.1]
      exact (sign_any W pa xs pc b HB.out.2.2 HX.out h.2.2.1 h.1 h.2.1).mono fun e w' ⟨v, he, hr, hb⟩ => ⟨_, he, sigv_of hr, hb⟩
    rintro v1 v2 b9 b10 x1 x2 w6 hb9 hb10 ⟨k1, d1, cs1, he1, hcs1, hF1⟩ ⟨k2, d2, cs2, he2, hcs2, hF2⟩ hl9 hl10 hb6
    obtain rfl : x1 = _ := by simpa using he1
    obtain rfl : x2 = _ := by simpa using he2
    simp only [put4, Act.put, List.setIfInBounds_toArray, List.set_cons_zero, List.set_cons_succ]
    have hs1 : Src w6 k1 0 (signL xs a) := fun j hj => by rw [Nat.zero_add, cell_of_row w6 k1 j cs1 26 (0, 0) hcs1]; exact hF1 j hj
    have hs2 : Src w6 k2 0 (signL xs b) := fun j hj => by rw [Nat.zero_add, cell_of_row w6 k2 j cs2 26 (0, 0) hcs2]; exact hF2 j hj
    have hall : ∀ V, Below w6.heap.size w6 V → Below W0.heap.size W0 V ∧ Ints V g1 (digit a) ∧ Ints V g2 (digit b) ∧ Src V k1 0 (signL xs a) ∧ Src V k2 0 (signL xs b) ∧ k1 < V.heap.size ∧ k2 < V.heap.size ∧ Lies V b9 #[.slice (some ⟨k1, 0, none⟩) 35 d1] 24 ∧ Lies V b10 #[.slice (some ⟨k2, 0, none⟩) 35 d2] 24 := fun V hV => by
      have hbV := hb6.trans (hV.mono hb6.size)
      have hq1 := (Array.getElem?_eq_some_iff.1 hcs1).1
      have hq2 := (Array.getElem?_eq_some_iff.1 hcs2).1
      exact ⟨HK2.out _ hbV, H2.out.2.1.below hbV H2.out.2.1.1, H2.out.2.2.below hbV H2.out.2.2.1, fun j hj => (hV.cell (p := ⟨k1, 0 + j, none⟩) hq1).trans (hs1 j hj), fun j hj => (hV.cell (p := ⟨k2, 0 + j, none⟩) hq2).trans (hs2 j hj), Nat.lt_of_lt_of_le hq1 hV.size, Nat.lt_of_lt_of_le hq2 hV.size, hl9.below hV hl9.lt, hl10.below hV hl10.lt⟩
    have HALL := Lib.hid hall
    clear hall hs1 hs2 hcs1 hcs2 hF1 hF2 he1 he2 hl9 hl10 hb6 hb9 hb10 H2 HK2
    have c9 := (HALL.out _ (Below.refl _ _)).2.2.2.2.2.2.2.1.cell 0 (v := .slice (some ⟨k1, 0, none⟩) 35 d1) rfl
    have c10 := (HALL.out _ (Below.refl _ _)).2.2.2.2.2.2.2.2.cell 0 (v := .slice (some ⟨k2, 0, none⟩) 35 d2) rfl
    go_upto_region 10 with fail
    clear c9 c10 hcur
    go_wp2_with fail
    go_loopw [13, 14] (fun s i W => ∃ k : Nat, k ≤ 16 ∧ i = .int .i64 k ∧ s = .bool (sameTo a b k) ∧ Below w6.heap.size w6 W) (fun _ i _ => 16 - (intOf i).toNat)
    case atStart => exact ⟨0, by omega, rfl, rfl, Below.refl _ _⟩
    case round =>
      obtain ⟨k, hk, rfl, rfl, hbr⟩ := hrel
      have HBR := Lib.hid hbr
      clear hbr
      by_cases hlt : k < 16
      · have i1 : (k : Int) < 16 := by omega
        have i0 : (0 : Int) ≤ (k : Int) := by omega
        have i2 : (k : Int) < 32 := by omega
        have hsu := sameTo_succ a b k
        have HSU := Lib.hid hsu
        have hK := HK.out _ (HALL.out _ HBR.out).1
        have ca : wr.cell? ⟨w.heap.size, k, none⟩ = some (.int .u8 (a.getD k 0).toNat) := hK.2.2.2.2.1.cell k (by rw [HA.out.1]; exact B8_get a k (by rw [HA.out.2.2]; omega))
        have cb : wr.cell? ⟨w.heap.size + 1, k, none⟩ = some (.int .u8 (b.getD k 0).toNat) := hK.2.2.2.2.2.cell k (by rw [HB.out.1]; exact B8_get b k (by rw [HB.out.2.2]; omega))
        have hxy : (a.getD k 0 == b.getD k 0) = decide ((a.getD k 0).toNat = (b.getD k 0).toNat) := by rw [Bool.eq_iff_iff, beq_iff_eq, decide_eq_true_iff, UInt8.toNat_inj]
        rw [hxy] at hsu
        clear hK hxy
        obtain ⟨x, hx⟩ : ∃ x, x = (a.getD k 0).toNat := ⟨_, rfl⟩
        obtain ⟨y, hy⟩ : ∃ y, y = (b.getD k 0).toNat := ⟨_, rfl⟩
        rw [← hx] at ca hsu
        rw [← hy] at cb hsu
        clear hx hy
        obtain ⟨s0, hs0⟩ : ∃ s, s = sameTo a b k := ⟨_, rfl⟩
        rw [← hs0] at hsu ⊢
        clear hs0
        have HSV := Lib.hid hsu
        clear hsu
        go_upto_region 13 with fail
        cases s0
        · clear ca cb
          go_quiet (fail)
          go_wp2_with fail
          refine ⟨⟨k + 1, by omega, by go_num, ?_, ?_⟩, ?_⟩
          · rw [HSV.out]; rfl
          · exact below_drewN HBR.out _
          · simp [intOf]; omega
        · by_cases hxy : x = y
          · subst hxy
            go_quiet (fail)
            go_wp2_with fail
            refine ⟨⟨k + 1, by omega, by go_num, ?_, ?_⟩, ?_⟩
            · rw [HSV.out]; simp
            · exact below_drewN HBR.out _
            · simp [intOf]; omega
          · have n1 : ((x : Int) == (y : Int)) = false := by rw [beq_eq_false_iff_ne]; omega
            have n2 : (x == y) = false := by rw [beq_eq_false_iff_ne]; exact hxy
            go_quiet (fail)
            go_wp2_with fail
            refine ⟨⟨k + 1, by omega, by go_num, ?_, ?_⟩, ?_⟩
            · rw [HSV.out]; simp [hxy]
            · exact below_drewN HBR.out _
            · simp [intOf]; omega
      · have hk16 : k = 16 := by omega
        subst hk16
        rw [show ((16 : Nat) : Int) = 16 from rfl]
        obtain ⟨s0, hs0⟩ : ∃ s, s = sameTo a b 16 := ⟨_, rfl⟩
        rw [← hs0]
        have HS0 := Lib.hid hs0
        clear hs0 hk hlt
        go_wp2_with fail
        go_loopw [11, 12, 15] (fun lo hi i W => ∃ k : Nat, k ≤ 35 ∧ i = .int .i64 k ∧ lo = .bool (lowTo a b k) ∧ hi = .bool (lowTo b a k) ∧ Below w6.heap.size w6 W) (fun _ _ i _ => 35 - (intOf i).toNat)
        case atStart => exact ⟨0, by omega, rfl, rfl, rfl, HBR.out⟩
        case round =>
        clear HBR
        obtain ⟨k, hk, rfl, rfl, rfl, hbr⟩ := hrel
        have HBR := Lib.hid hbr
        clear hbr
        by_cases hlt : k < 35
        · have j1 : (k : Int) < 35 := by omega
          have j0 : (0 : Int) ≤ (k : Int) := by omega
          obtain ⟨hv, hhv⟩ : ∃ hv, hv = B8 (sigH xs a k) := ⟨_, rfl⟩
          have hsz : hv.size = 32 := by rw [hhv, B8_size]; exact sigH_length _ _ _
          have hsz2 : (Tryd.prog.info? 26).map (·.size) = some hv.toList.length := by rw [Array.length_toList, hsz]; kernel_rfl
          have HHV := Lib.hid (show ∀ V, Below w6.heap.size w6 V → V.rangeAt k1 (k * 32) hv.toList from fun V hV => by
            rw [hhv]
            exact (hash_sign (HALL.out _ hV).2.2.2.1 (HALL.out _ hV).2.2.2.2.2.1 k hlt).2.1)
          have HSZ := Lib.hid (And.intro hsz (And.intro hsz2 hhv))
          obtain ⟨da, hda⟩ : ∃ d, d = digit a k := ⟨_, rfl⟩
          obtain ⟨db, hdb⟩ : ∃ d, d = digit b k := ⟨_, rfl⟩
          have HDA := Lib.hid (show ∀ V, Below w6.heap.size w6 V → V.cell? ⟨g1, k, none⟩ = some (.int .i64 da) from fun V hV => by rw [hda]; exact (HALL.out _ hV).2.1.2 k hlt)
          have HDB := Lib.hid (show ∀ V, Below w6.heap.size w6 V → V.cell? ⟨g2, k, none⟩ = some (.int .i64 db) from fun V hV => by rw [hdb]; exact (HALL.out _ hV).2.2.1.2 k hlt)
          have HD := Lib.hid (And.intro hda (And.intro hdb (And.intro hlt hk)))
          clear hhv hsz hsz2 hda hdb hlt hk
          go_upto_region 17 with fail
          refine wp_region_held (S := Below w6.heap.size w6) (by kernel_rfl) ?_
          change wpAnyH _ _ _ _ _ 12 _ _ (World.drew wr)
          have hcur : Below w6.heap.size w6 wr.drew := HBR.out.drew
          refine held_take (i := 0) (v := (.pointer (some ⟨b9, 0, none⟩))) rfl 61 rfl (by kernel_rfl) (by kernel_rfl) (by kernel_rfl) (fun _ _ _ h => h) (by rfl) (by intro w' hS'; unfold execOp; simp [go_sem]) hcur _ rfl ?_
          simp only [Act.put, List.setIfInBounds_toArray, List.set_cons_zero, List.set_cons_succ]
          refine held_take (i := 1) (v := (.slice (some ⟨k1, 0, none⟩) 35 d1)) rfl 62 rfl (by kernel_rfl) (by kernel_rfl) (by kernel_rfl) (fun _ _ _ h => h) (by rfl) (by intro w' hS'; have h1 := (HALL.out _ hS').2.2.2.2.2.2.2.1.cell 0 (v := .slice (some ⟨k1, 0, none⟩) 35 d1) rfl; unfold execOp; simp [go_sem, h1]) hcur _ rfl ?_
          simp only [Act.put, List.setIfInBounds_toArray, List.set_cons_zero, List.set_cons_succ]
          refine held_take (i := 2) (v := (.int .i64 k)) rfl 63 rfl (by kernel_rfl) (by kernel_rfl) (by kernel_rfl) (fun _ _ _ h => h) (by rfl) (by intro w' hS'; unfold execOp; simp [go_sem]) hcur _ rfl ?_
          simp only [Act.put, List.setIfInBounds_toArray, List.set_cons_zero, List.set_cons_succ]
          refine held_take (i := 3) (v := (.pointer (some ⟨k1, k * 32, none⟩))) rfl 64 rfl (by kernel_rfl) (by kernel_rfl) (by kernel_rfl) (fun _ _ _ h => h) (by rfl) (by intro w' hS'; unfold execOp; simp [go_sem, j0, j1]) hcur _ rfl ?_
          simp only [Act.put, List.setIfInBounds_toArray, List.set_cons_zero, List.set_cons_succ]
          refine held_take (i := 4) (v := (.agg hv)) rfl 65 rfl (by kernel_rfl) (by kernel_rfl) (by kernel_rfl) (fun _ _ _ h => h) (by rfl) (by intro w' hS'; exact exec_loadA _ rfl _ _ rfl (HHV.out _ hS') HSZ.out.2.1) hcur _ rfl ?_
          simp only [Act.put, List.setIfInBounds_toArray, List.set_cons_zero, List.set_cons_succ]
          refine held_take (i := 5) (v := (.slice (some ⟨g1, 0, none⟩) 35 c1)) rfl 66 rfl (by kernel_rfl) (by kernel_rfl) (by kernel_rfl) (fun _ _ _ h => h) (by rfl) (by intro w' hS'; unfold execOp; simp [go_sem]) hcur _ rfl ?_
          simp only [Act.put, List.setIfInBounds_toArray, List.set_cons_zero, List.set_cons_succ]
          refine held_take (i := 6) (v := (.int .i64 k)) rfl 67 rfl (by kernel_rfl) (by kernel_rfl) (by kernel_rfl) (fun _ _ _ h => h) (by rfl) (by intro w' hS'; unfold execOp; simp [go_sem]) hcur _ rfl ?_
          simp only [Act.put, List.setIfInBounds_toArray, List.set_cons_zero, List.set_cons_succ]
          refine held_take (i := 7) (v := (.pointer (some ⟨g1, k, none⟩))) rfl 68 rfl (by kernel_rfl) (by kernel_rfl) (by kernel_rfl) (fun _ _ _ h => h) (by rfl) (by intro w' hS'; unfold execOp; simp [go_sem, j0, j1]) hcur _ rfl ?_
          simp only [Act.put, List.setIfInBounds_toArray, List.set_cons_zero, List.set_cons_succ]
          refine held_take (i := 8) (v := (.int .i64 da)) rfl 69 rfl (by kernel_rfl) (by kernel_rfl) (by kernel_rfl) (fun _ _ _ h => h) (by rfl) (by intro w' hS'; have h1 := HDA.out _ hS'; unfold execOp; simp [go_sem, h1]) hcur _ rfl ?_
          simp only [Act.put, List.setIfInBounds_toArray, List.set_cons_zero, List.set_cons_succ]
          refine held_one (i := 9) (by kernel_rfl) _ rfl (wpOp_alloc26 rfl rfl 16 rfl rfl ⟨hcur.alloc hcur.size _, ?_⟩)
          simp only [Act.put, List.setIfInBounds_toArray, List.set_cons_zero, List.set_cons_succ]
          have hl16 := Lies.new wr.drew z32 26
          have hb16 := hcur.alloc hcur.size (.cells z32 26)
          have hn16 : w6.heap.size ≤ wr.drew.heap.size := hcur.size
          generalize wr.drew.heap.size = bh at hl16 hn16 ⊢
          generalize wr.drew.alloc (.cells z32 26) = w17 at hl16 hb16 ⊢
          refine held_one (i := 10) (by kernel_rfl) _ rfl (wpOp_storeRow rfl rfl rfl 26 _ _ rfl bh hv rfl rfl 26 _ hl16 (by rw [HSZ.out.1]; kernel_rfl) (by rw [HSZ.out.1]; rfl) (by rw [HSZ.out.2.2]; exact B8_one _) ?_)
          have hb18 := below_setRow hb16 bh hv hn16
          have hl18 := hl16.setRow hv
          refine ⟨hb18, ?_⟩
          generalize w17.setRow bh hv = w18 at hb18 hl18 ⊢
          refine held_take (i := 11) (v := (.int .i64 da)) rfl 17 rfl (by kernel_rfl) (by kernel_rfl) (by kernel_rfl) (fun _ _ _ h => h) (by rfl) (by intro w' hS'; unfold execOp; simp [go_sem]) hb18 _ rfl ?_
          simp only [Act.put, List.setIfInBounds_toArray, List.set_cons_zero, List.set_cons_succ]
          refine wpAnyH_done (by kernel_rfl) ?_ _
          have HW := Lib.hid (And.intro hb18 (And.intro hl18 hn16))
          clear hb18 hl18 hn16 hl16 hb16 hcur
          go_wp2_with fail
          have HKO := Lib.hid HBR.out.size
          clear HBR
          go_loopw [17] (fun q W => ∃ p : Nat, da ≤ p ∧ p ≤ max da db ∧ q = .int .i64 p ∧ Lies W bh (B8 (onN k 0 p (firstH xs k))) 26 ∧ Below w6.heap.size w6 W) (fun q _ => db - (intOf q).toNat)
          case atStart => exact ⟨da, Nat.le_refl _, Nat.le_max_left _ _, rfl, by have := HW.out.2.1; rw [HSZ.out.2.2] at this; unfold sigH at this; rw [← HD.out.1] at this; exact this, HW.out.1⟩
          case round =>
          obtain ⟨p, hp1, hp2, rfl, hl, hbr⟩ := hrel
          have hd15a : da ≤ 15 := by rw [HD.out.1]; exact digit_le a k
          have hd15b : db ≤ 15 := by rw [HD.out.2.1]; exact digit_le b k
          have HP := Lib.hid (And.intro hp1 (And.intro hp2 (And.intro hl (And.intro hbr (And.intro hd15a hd15b)))))
          have cdb := HDB.out _ hbr
          by_cases hpd : p < db
          · have m1p : (p : Int) < (db : Int) := by omega
            obtain ⟨q, hq⟩ : ∃ q, q = p + 1 := ⟨_, rfl⟩
            have eq1 : (p : Int) + 1 = (q : Int) := by omega
            have hq15 : q ≤ 15 := by omega
            have hq0 : (0 : Int) ≤ (q : Int) := by omega
            have hq16 : (q : Int) < 256 := by omega
            have hwk : IntKind.u8.wrap (k : Int) = (k : Int) := by
              have := HD.out.2.2.1
              show (k : Int) % 256 = _
              omega
            have hwq : IntKind.u8.wrap (q : Int) = (q : Int) := by
              show (q : Int) % 256 = _
              omega
            obtain ⟨hc, hhc⟩ : ∃ h, h = onN k 0 p (firstH xs k) := ⟨_, rfl⟩
            obtain ⟨hn, hhn⟩ : ∃ h, h = nextH k q hc := ⟨_, rfl⟩
            have hcl : hc.length = 32 := by rw [hhc]; exact onN_length _ _ _ (firstH_length _ _) _
            have hnl : hn.length = 32 := by rw [hhn]; exact nextH_length _ _ _
            rw [← hhc] at hl
            have hnx := next_any hc hcl k q (by have := HD.out.2.2.1; omega) (by omega) wr (HK.out _ (HALL.out _ hbr).1).1 (HK.out _ (HALL.out _ hbr).1).2.1
            rw [← hhn] at hnx
            obtain ⟨cv, hcv⟩ : ∃ v, v = B8 hc := ⟨_, rfl⟩
            have hcs : cv.size = 32 := by rw [hcv, B8_size, hcl]
            rw [← hcv] at hnx hl
            have HN := Lib.hid (And.intro hq (And.intro hhc (And.intro hhn (And.intro hnl (And.intro hcs (And.intro hl hpd))))))
            have HNX := Lib.hid hnx
            clear hnx hl hq hhc hhn hnl hcs hcv hcl hp1 hp2 hd15a hd15b hpd hbr hq15
            go_upto_region 20 with fail
            clear cdb m1p
            go_wp2_with (refine wpList_load_row rfl 26 _ rfl bh rfl 26 _ (0, 0) _ HN.out.2.2.2.2.2.1 Tryd.underlying26 rfl (by rw [HN.out.2.2.2.2.1]; kernel_rfl) ?_)
            refine HNX.out.mono ?_
            rintro e w20 ⟨rfl, hb20⟩
            have hlb := HN.out.2.2.2.2.2.1.below hb20 HN.out.2.2.2.2.2.1.lt
            have hbb := HP.out.2.2.2.1.trans (hb20.mono HP.out.2.2.2.1.size)
            have hsn : (B8 hn).size = 32 := by rw [B8_size]; exact HN.out.2.2.2.1
            have HLB := Lib.hid (And.intro hlb (And.intro hbb hsn))
            clear hlb hbb hb20 hsn
            go_wp2_with (refine wpList_store_row rfl 26 _ _ rfl bh (B8 hn) rfl rfl 26 cv HLB.out.1 (by rw [HLB.out.2.2]; kernel_rfl) (by rw [HLB.out.2.2]; exact HN.out.2.2.2.2.1) (B8_one _) ?_)
            have hfin : Lies (w20.setRow bh (B8 hn)) bh (B8 (onN k 0 q (firstH xs k))) 26 := by
              have := HLB.out.1.setRow (B8 hn)
              rw [show onN k 0 q (firstH xs k) = hn by rw [HN.out.2.2.1, HN.out.2.1, HN.out.1, onN_succ, Nat.zero_add]]
              exact this
            have hmx : q ≤ max da db := by have := HN.out.1; have := HN.out.2.2.2.2.2.2; have := Nat.le_max_right da db; omega
            refine ⟨⟨_, _, _, _, _, _, _, _, _, _, _, _, _, _, _, ⟨q, by have := HN.out.1; have := HP.out.1; omega, hmx, rfl, hfin, below_setRow HLB.out.2.1 _ _ HW.out.2.2⟩, rfl⟩, ?_⟩
            have := HN.out.1
            have := HN.out.2.2.2.2.2.2
            show db - (intOf (.int .i64 (q : Int))).toNat < db - (intOf (.int .i64 (p : Int))).toNat
            simp [intOf]; omega
          · have m1p : decide (p < db) = false := by simp; omega
            have m1q : ¬ (p : Int) < (db : Int) := by omega
            have hpm : p = max da db := by omega
            have HPM := Lib.hid hpm
            clear hp1 hp2 hl hpd hpm hbr
            go_upto_region 21 with fail
            clear cdb m1p m1q
            have hx16 : HashAt wr bh 0 (onN k 0 p (firstH xs k)) := ⟨onN_length _ _ _ (firstH_length _ _) _, by have := range_lies HP.out.2.2.1; exact this, HP.out.2.2.1.lt⟩
            have hbr := HP.out.2.2.2.1
            have hx10 := hash_sign (HALL.out _ hbr).2.2.2.2.1 (HALL.out _ hbr).2.2.2.2.2.2.1 k HD.out.2.2.1
            have c10 := (HALL.out _ hbr).2.2.2.2.2.2.2.2.cell 0 (v := .slice (some ⟨k2, 0, none⟩) 35 d2) rfl
            have cda := HDA.out _ hbr
            have cdb := HDB.out _ hbr
            have HX16 := Lib.hid hx16
            have HX10 := Lib.hid hx10
            clear hx16 hx10 hbr hd15a hd15b
            go_cut [101] from 144 (fun v W => v = .bool false ∧ Below w6.heap.size w6 W)
            case first =>
              have r10 := fun d os => cell_regrown c10 d os
              have rda := fun d os => cell_regrown cda d os
              have rdb := fun d os => cell_regrown cdb d os
              clear c10 cda cdb
              by_cases hle : da ≤ db
              · have n1 : (da : Int) ≤ (db : Int) := by omega
                obtain ⟨X, hX⟩ : ∃ X, X = sigH xs b k := ⟨_, rfl⟩
                have h1 := HX16.out
                have h2 := HX10.out
                rw [← hX] at h2
                have e1 : onN k 0 p (firstH xs k) = X := by
                  rw [hX, HPM.out, Nat.max_eq_right hle, HD.out.2.1]; rfl
                rw [e1] at h1
                have heq := equal_same X h1.1
                have hgu := guard26
                have X1 := Lib.hid h1
                have X2 := Lib.hid h2
                clear h1 h2 e1 hX hle
                refine wp_region_quiet_below (by kernel_rfl) (by kernel_rfl) ?_
                iterate 10 (first | go_big_quiet_step (fail) | quiet_step (fail))
                refine wpQuiet_load26 (by rfl) _ rfl bh 0 rfl X X1.out ?_
                iterate 4 (first | go_big_quiet_step (fail) | quiet_step (fail))
                refine wpQuiet_load26 (by rfl) _ rfl k2 (k * 32) rfl X X2.out ?_
                iterate 2 (first | go_big_quiet_step (fail) | quiet_step (fail))
                refine wpQuiet_nil ?_
                rintro w5 ⟨pp, hw5⟩
                have hb5 : Below w6.heap.size w6 w5 := by rw [hw5]; exact HP.out.2.2.2.1.trans ((below_regrown wr pp.d pp.os).mono HP.out.2.2.2.1.size)
                clear hw5 X1 X2 heq
                go_wp2_with fail
                go_meet
                case rel => exact ⟨rfl, hb5⟩
              · have n1 : decide ((da : Int) ≤ (db : Int)) = false := by simp; omega
                have n2 : decide (da ≤ db) = false := by simp; omega
                refine wp_region_quiet_below (by kernel_rfl) (by kernel_rfl) ?_
                iterate 18 (first | go_big_quiet_step (fail) | quiet_step (fail))
                refine wpQuiet_nil ?_
                rintro w5 ⟨pp, hw5⟩
                have hb5 : Below w6.heap.size w6 w5 := by rw [hw5]; exact HP.out.2.2.2.1.trans ((below_regrown wr pp.d pp.os).mono HP.out.2.2.2.1.size)
                clear hw5
                go_wp2_with fail
                go_meet
                case rel => exact ⟨rfl, hb5⟩
            case rest =>
              obtain ⟨rfl, hb5⟩ := hcut
              have HB5 := Lib.hid hb5
              clear c10 cda cdb hb5 HX16 HX10
              go_upto_region 23 with fail
              have HBlo := Lib.hid HB5.out
              clear HB5
              go_upto_region 23 with fail
              have cda := HDA.out _ HBlo.out
              have cdb := HDB.out _ HBlo.out
              obtain ⟨llo, hllo⟩ : ∃ l, l = lowTo a b k := ⟨_, rfl⟩
              have hslo := lowTo_succ a b k
              rw [← hllo, ← HD.out.1, ← HD.out.2.1] at hslo
              rw [← hllo]
              have HSlo := Lib.hid hslo
              clear hllo hslo
              go_cut [11] from 144 (fun v W => v = .bool (lowTo a b (k + 1)) ∧ Below w6.heap.size w6 W)
              case first =>
                cases llo
                · by_cases hltlo : da < db
                  · have n1 : (da : Int) < (db : Int) := by omega
                    go_quiet (fail)
                    go_wp2_with fail
                    go_meet
                    case rel => exact ⟨by rw [HSlo.out]; simp [hltlo], below_drewN HBlo.out _⟩
                  · have n1 : decide ((da : Int) < (db : Int)) = false := by simp; omega
                    have n2 : decide (da < db) = false := by simp; omega
                    go_quiet (fail)
                    go_wp2_with fail
                    go_meet
                    case rel => exact ⟨by rw [HSlo.out]; simp [hltlo], below_drewN HBlo.out _⟩
                · go_quiet (fail)
                  go_wp2_with fail
                  go_meet
                  case rel => exact ⟨by rw [HSlo.out]; rfl, below_drewN HBlo.out _⟩
              case rest =>
                obtain ⟨rfl, hbr⟩ := hcut
                have HBhi := Lib.hid hbr
                clear hbr cda cdb HBlo HSlo
                go_upto_region 24 with fail
                have cda := HDA.out _ HBhi.out
                have cdb := HDB.out _ HBhi.out
                obtain ⟨lhi, hlhi⟩ : ∃ l, l = lowTo b a k := ⟨_, rfl⟩
                have hshi := lowTo_succ b a k
                rw [← hlhi, ← HD.out.2.1, ← HD.out.1] at hshi
                rw [← hlhi]
                have HShi := Lib.hid hshi
                clear hlhi hshi
                cases lhi
                · by_cases hlthi : db < da
                  · have n1 : (db : Int) < (da : Int) := by omega
                    go_quiet (fail)
                    go_wp2_with fail
                    refine ⟨⟨k + 1, by have := HD.out.2.2.1; omega, by go_num, rfl, by rw [HShi.out]; simp [hlthi], below_drewN HBhi.out _⟩, ?_⟩
                    have := HD.out.2.2.1
                    simp [intOf]; omega
                  · have n1 : decide ((db : Int) < (da : Int)) = false := by simp; omega
                    have n2 : decide (db < da) = false := by simp; omega
                    go_quiet (fail)
                    go_wp2_with fail
                    refine ⟨⟨k + 1, by have := HD.out.2.2.1; omega, by go_num, rfl, by rw [HShi.out]; simp [hlthi], below_drewN HBhi.out _⟩, ?_⟩
                    have := HD.out.2.2.1
                    simp [intOf]; omega
                · go_quiet (fail)
                  go_wp2_with fail
                  refine ⟨⟨k + 1, by have := HD.out.2.2.1; omega, by go_num, rfl, by rw [HShi.out]; rfl, below_drewN HBhi.out _⟩, ?_⟩
                  have := HD.out.2.2.1
                  simp [intOf]; omega
        · have hk35 : k = 35 := by omega
          subst hk35
          rw [show ((35 : Nat) : Int) = 35 from rfl]
          have hend := (HK.out _ (HALL.out _ HBR.out).1).2.2.2.1
          have HEND := Lib.hid hend
          clear hend hk hlt
          have hs0 := HS0.out
          cases s0
          · have e1 := lowTo_yes hs0.symm
            have e2 := lowTo_yes (show sameTo b a 16 = false by rw [sameTo_symm]; exact hs0.symm)
            rw [e1, e2]
            clear e1 e2 hs0
            go_wp2_with fail
            go_ret
            exact ⟨rfl, HEND.out⟩
          · have e1 := lowTo_no hs0.symm 35
            have e2 := lowTo_no (show sameTo b a 16 = true by rw [sameTo_symm]; exact hs0.symm) 35
            rw [e1, e2]
            have hdd := digit_same (sameTo_yes hs0.symm)
            have hss : signL xs b = signL xs a := by
              unfold signL
              rw [List.flatMap_def, List.flatMap_def, List.map_congr_left fun i _ => show sigH xs b i = sigH xs a i by unfold sigH; rw [hdd i]]
            have hH := HALL.out _ HBR.out
            have hsame := samehashes_any (signL xs a) 35 (signL_length _ _) (by omega) (some ⟨k1, 0, none⟩) (some ⟨k2, 0, none⟩) d1 d2 wr (fun _ => ⟨k1, 0, rfl, hH.2.2.2.2.2.1, hH.2.2.2.1⟩) (fun _ => ⟨k2, 0, rfl, hH.2.2.2.2.2.2.1, by have := hH.2.2.2.2.1; rwa [hss] at this⟩)
            have c9 := hH.2.2.2.2.2.2.2.1.cell 0 (v := .slice (some ⟨k1, 0, none⟩) 35 d1) rfl
            have c10 := hH.2.2.2.2.2.2.2.2.cell 0 (v := .slice (some ⟨k2, 0, none⟩) 35 d2) rfl
            have HSM := Lib.hid hsame
            have HBW := Lib.hid (hH.1)
            clear e1 e2 hs0 hdd hss hH hsame
            go_wp2_with fail
            refine HSM.out.mono ?_
            rintro e w9 ⟨rfl, hb9⟩
            have hend9 := (HK.out _ (HBW.out.trans (hb9.mono HBW.out.size))).2.2.2.1
            clear hb9
            go_wp2_with fail
            go_ret
            exact ⟨rfl, hend9⟩
end Go.Proofs.YtgempifedhiknaaDoor
