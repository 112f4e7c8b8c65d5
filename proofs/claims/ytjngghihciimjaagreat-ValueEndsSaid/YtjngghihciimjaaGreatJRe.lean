/-
  The document's own sums of bundles.
-/
import Derived.Test.YtjngghihciimjaaGreatJRd
namespace Go.Proofs.YtjngghihciimjaaGreat
set_option maxRecDepth 100000
open Go.RowKit Go.Sort Go.Maps
structure RWay (w W : World) (s : BitVec 128) (sv : Value) (L : List Ct) : Prop where
 below : Below w.heap.size w W
 res : Lies W w.heap.size #[.int .i64 0, .int .u64 0] 48
 sum : Lies W (w.heap.size + 1) #[.int .i64 (hiS s), .int .u64 (loN s)] 48
 row : ∃ p c, sv = .slice p (putAll [] L).length c ∧ RowT W p (putAll [] L)
theorem RWay.step {w W U : World} {s : BitVec 128} {sv : Value} {L : List Ct} (h : RWay w W s sv L) (hb : Below W.heap.size W U) : RWay w U s sv L := by
 obtain ⟨p, c, h2, h3⟩ := h.row
 exact ⟨h.below.trans (hb.mono h.below.size), h.res.below hb h.res.lt, h.sum.below hb h.sum.lt, p, c, h2, h3.below hb (Nat.le_refl _)⟩
theorem RWay.put {w W W' : World} {s : BitVec 128} {sv v : Value} {L : List Ct} {x : Ct} (h : RWay w W s sv L) (hok : ∀ p, p ∈ L ++ [x] → p.1.1.length = 32 ∧ p.1.2.length ≤ maxLen) (hl : (L ++ [x]).length ≤ 1000000) (ho : OwnTo W' W.heap.size v (putL ⟨x.1, x.2⟩ (putAll [] L))) (hb : Below W.heap.size W W') : RWay w W' s v (L ++ [x]) := by
 rw [← putAll_snoc] at ho
 have hlen := len_all [] (L ++ [x])
 obtain ⟨p, c, e, hr⟩ := OwnTo.row ho (ok_all hok) (by
  have : ([] : List To).length = 0 := rfl
  unfold maxLen
  omega)
 have h2 := h.step hb
 exact ⟨h2.below, h2.res, h2.sum, p, c, e, hr⟩
theorem RWay.set {w W : World} {s x : BitVec 128} {sv : Value} {L : List Ct} (h : RWay w W s sv L) : RWay w (W.setRow (w.heap.size + 1) #[.int .i64 (hiS x), .int .u64 (loN x)]) x sv L := by
 obtain ⟨p, c, h2, h3⟩ := h.row
 exact ⟨below_setRow h.below _ _ (Nat.le_succ _), h.res.setRowOther _ _ (by omega), h.sum.setRow _, p, c, h2, h3.setRow _ _ h.sum (show 2 ≤ 34 by decide)⟩
theorem built_tot (a : As) (h : a.nm.1.length = 32) (x : BitVec 128) : Tryz.prog.built 75 [(0, .agg (B8 a.nm.1)), (1, .string (txt a.nm.2)), (2, .agg #[.int .i64 (hiS x), .int .u64 (loN x)])] = some (toC ⟨a.nm, x⟩) := built_total ⟨a.nm, x⟩ h
theorem asC_pol {U : World} {b : Nat} {a : As} (h : a.nm.1.length = 32) (hL : Lies U b (asC a) 38) : U.rangeAt b 0 (B8 a.nm.1).toList := fun j v hv => by
 rw [Array.getElem?_toList] at hv
 have hj : j < 32 := by
  have := (Array.getElem?_eq_some_iff.1 hv).1
  rw [B8_size, h] at this
  exact this
 rw [Nat.zero_add]
 refine hL.cell j ?_
 rw [asC_get a h j hj, ← B8_get a.nm.1 j (by omega)]
 exact hv
def RefSums (vs : List Va) (w' : World) (e : Ending) : Prop := ∃ p l c', e = .returned (.tuple #[wv (coinS vs), .slice p l.length c']) ∧ RowT w' p l ∧ IsTot (sumAt (ctsL vs)) (ctT l)
attribute [-go_sem] Instr.build
set_option maxHeartbeats 16000000 in
theorem rsums_any (w : World) (pa : Option Addr) (vs : List Va) (c : Nat) (h : RowV w pa vs) (hc : (ctsL vs).length ≤ 1000000) (hnm : ∀ p, p ∈ ctsL vs → p.1.1.length = 32 ∧ p.1.2.length ≤ maxLen) :
  Calls Tryz.prog 27 #[.slice pa vs.length c] w fun e w' => RefSums vs w' e ∧ Below w.heap.size w w' := by
 have hli : (vs.length : Int) ≤ 9223372036854775807 := by have := h.1; unfold maxLen at this; omega
 have H := Lib.hid (And.intro h (And.intro hc hnm))
 clear h hc hnm
 go_enter Tryz.func27, Tryz.ntmps27
 go_upto_region 2 with fail
 have hst : RWay w ((w.alloc (.cells #[.int .i64 0, .int .u64 0] 48)).alloc (.cells #[.int .i64 0, .int .u64 0] 48)) (coinS (vs.take 0)) (.slice none 0 0) (ctsL (vs.take 0)) := by
  refine ⟨((Below.refl _ _).alloc (Nat.le_refl _) _).alloc (by simp) _, (Lies.new _ _ _).alloc _, ?_, none, 0, rfl, Nat.zero_le _, fun a ha => by simp [ctsL, putAll] at ha, fun h => absurd h (by simp [ctsL, putAll])⟩
  have := Lies.new (w.alloc (.cells #[.int .i64 0, .int .u64 0] 48)) #[.int .i64 0, .int .u64 0] 48
  rw [show (#[.int .i64 (hiS (coinS (vs.take 0))), .int .u64 (loN (coinS (vs.take 0)))] : Array Value) = #[.int .i64 0, .int .u64 0] from wC_zero]
  simpa using this
 generalize (w.alloc (.cells #[.int .i64 0, .int .u64 0] 48)).alloc (.cells #[.int .i64 0, .int .u64 0] 48) = W1 at hst ⊢
 have HST := Lib.hid hst
 clear hst
 go_wp2_with fail
 go_loopw [5, 6] (fun s i W => ∃ k : Nat, k ≤ vs.length ∧ i = .int .i64 k ∧ RWay w W (coinS (vs.take k)) s (ctsL (vs.take k))) (fun _ i _ => vs.length - (intOf i).toNat)
 case atStart => exact ⟨0, Nat.zero_le _, rfl, HST.out⟩
 case round =>
  obtain ⟨k, hk, rfl, hway⟩ := hrel
  by_cases hlt : k < vs.length
  ·
   have m1 : (k : Int) < (vs.length : Int) := by omega
   have m0 : (0 : Int) ≤ (k : Int) := by omega
   obtain ⟨g, off, rfl, hg, hh⟩ := H.out.1.2 (by omega)
   obtain ⟨v, hv⟩ : ∃ v, v = vs[k] := ⟨_, rfl⟩
   have hkv : vs[k]? = some v := by rw [hv, List.getElem?_eq_getElem hlt]
   have hv0 := (hh k v hkv).2
   have hcl : ∀ U, Below w.heap.size w U → U.cell? ⟨g, off + k * 2, none⟩ = some (.int .i64 v.coin) ∧ U.cell? ⟨g, off + k * 2 + 1, none⟩ = some (.slice v.pa v.l.length v.c) := fun U hU => by
    have h2 := (hh.below hU hg (Nat.le_refl _) k v hkv).1
    have h3 := h2 0 (.int .i64 v.coin) rfl
    rw [Nat.add_zero] at h3
    exact ⟨h3, h2 1 (.slice v.pa v.l.length v.c) rfl⟩
   obtain ⟨s, hs⟩ : ∃ s, s = coinS (vs.take k) := ⟨_, rfl⟩
   obtain ⟨L, hL⟩ : ∃ L, L = ctsL (vs.take k) := ⟨_, rfl⟩
   have hs' : coinS (vs.take (k + 1)) = s + wide v.coin := by rw [hs]; exact coinS_take hkv
   have hL' : ctsL (vs.take (k + 1)) = L ++ ctsOf v := by rw [hL]; exact ctsL_take hkv
   have hLe : ∀ j, j ≤ v.l.length → (L ++ (ctsOf v).take j).length ≤ 1000000 := fun j hj => by rw [hL]; exact Nat.le_trans (ctsL_le hkv hj) H.out.2.1
   have hLn : ∀ p, p ∈ L ++ ctsOf v → p.1.1.length = 32 ∧ p.1.2.length ≤ maxLen := fun p hp => H.out.2.2 p (by
    rw [← hL'] at hp
    have e : ctsL vs = ctsL (vs.take (k + 1)) ++ ctsL (vs.drop (k + 1)) := by
     unfold ctsL
     rw [← List.flatMap_append, List.take_append_drop]
    rw [e]
    exact List.mem_append_left _ hp)
   rw [← hs, ← hL] at hway
   have HR := Lib.hid (And.intro hway (And.intro hlt (And.intro hv0 (And.intro hs' (And.intro hL' (And.intro hLe (And.intro hLn hcl)))))))
   clear hk hlt hway hg hh hv hkv hv0 hs hL hs' hL' hLe hLn hcl
   go_upto_region 6 with fail
   refine wp_region_noPanic (wp_region_late (fun j => j == 9) (fun U => U.rangeAt (w.heap.size + 1) 0 (#[Value.int .i64 (hiS s), .int .u64 (loN s)] : Array Value).toList ∧ U.cell? ⟨g, off + k * 2, none⟩ = some (.int .i64 v.coin)) (by kernel_rfl) ?_)
   change wpLate _ _ _ _ _ _ 10 _ _ (World.drew wr)
   have hcd : Below wr.heap.size wr wr.drew := (Below.refl _ _).drew
   have hwd := HR.out.1.step hcd
   clear hcd
   generalize World.drew wr = wd at hwd ⊢
   have hcur := And.intro (range_lies hwd.sum) (HR.out.2.2.2.2.2.2.2 wd hwd.below).1
   refine late_take (i := 0) (v := (.agg #[.int .i64 (hiS s), .int .u64 (loN s)])) rfl 15 rfl (by kernel_rfl) (by kernel_rfl) (by kernel_rfl) (by kernel_rfl) (fun _ _ _ h => h) (by rfl) (by intro w' hS'; exact exec_loadM 48 _ rfl _ _ rfl #[.int .i64 (hiS s), .int .u64 (loN s)] hS'.1 Tryz.underlying48 rfl info_wide) hcur _ rfl ?_
   simp only [Act.put, List.setIfInBounds_toArray, List.set_cons_zero, List.set_cons_succ]
   refine late_take (i := 1) (v := (.slice (some ⟨g, off, none⟩) vs.length c)) rfl 16 rfl (by kernel_rfl) (by kernel_rfl) (by kernel_rfl) (by kernel_rfl) (fun _ _ _ h => h) (by rfl) (by intro w' hS'; unfold execOp; simp [go_sem]) hcur _ rfl ?_
   simp only [Act.put, List.setIfInBounds_toArray, List.set_cons_zero, List.set_cons_succ]
   refine late_take (i := 2) (v := (.int .i64 k)) rfl 17 rfl (by kernel_rfl) (by kernel_rfl) (by kernel_rfl) (by kernel_rfl) (fun _ _ _ h => h) (by rfl) (by intro w' hS'; unfold execOp; simp [go_sem]) hcur _ rfl ?_
   simp only [Act.put, List.setIfInBounds_toArray, List.set_cons_zero, List.set_cons_succ]
   refine late_take (i := 3) (v := (.pointer (some ⟨g, off + k * 2, none⟩))) rfl 18 rfl (by kernel_rfl) (by kernel_rfl) (by kernel_rfl) (by kernel_rfl) (fun _ _ _ h => h) (by rfl) (by intro w' hS'; unfold execOp; simp [go_sem, m0, m1]) hcur _ rfl ?_
   simp only [Act.put, List.setIfInBounds_toArray, List.set_cons_zero, List.set_cons_succ]
   refine late_take (i := 4) (v := (.pointer (some ⟨g, off + k * 2, none⟩))) rfl 19 rfl (by kernel_rfl) (by kernel_rfl) (by kernel_rfl) (by kernel_rfl) (fun _ _ _ h => h) (by rfl) (by intro w' hS'; unfold execOp; simp [go_sem]) hcur _ rfl ?_
   simp only [Act.put, List.setIfInBounds_toArray, List.set_cons_zero, List.set_cons_succ]
   refine late_take (i := 5) (v := (.int .i64 v.coin)) rfl 20 rfl (by kernel_rfl) (by kernel_rfl) (by kernel_rfl) (by kernel_rfl) (fun _ _ _ h => h) (by rfl) (by intro w' hS'; have q := hS'.2; unfold execOp; simp [go_sem, q]) hcur _ rfl ?_
   simp only [Act.put, List.setIfInBounds_toArray, List.set_cons_zero, List.set_cons_succ]
   refine late_one (i := 6) (by kernel_rfl) _ rfl (wpOp_callG rfl (by rfl) 21 rfl 40 #[.int .i64 v.coin] (by unfold execOp; simp [go_sem]) _ (ret_of (rwide_any wd v.coin HR.out.2.2.1.1 HR.out.2.2.1.2.1)) ?_)
   rintro v3 w3 ⟨rfl, hb3⟩
   have hw3 := hwd.step hb3
   have hcur := And.intro (range_lies hw3.sum) (HR.out.2.2.2.2.2.2.2 w3 hw3.below).1
   refine ⟨fun _ => hcur, ?_⟩
   unfold wv
   simp only [Act.put, List.setIfInBounds_toArray, List.set_cons_zero, List.set_cons_succ]
   obtain ⟨y, hy⟩ : ∃ y, y = wide v.coin := ⟨_, rfl⟩
   rw [← hy]
   refine late_one (i := 7) (by kernel_rfl) _ rfl (wpOp_valG (v := .slice (some ⟨w3.heap.size, 0, none⟩) 2 2) (w' := w3.alloc (.cells #[.int .i64 (hiS s), .int .u64 (loN s), .int .i64 (hiS y), .int .u64 (loN y)] 48)) rfl (by rfl) 22 rfl (by unfold execOp; simp [go_sem]) ?_)
   have hb4 : Below w3.heap.size w3 (w3.alloc (.cells #[.int .i64 (hiS s), .int .u64 (loN s), .int .i64 (hiS y), .int .u64 (loN y)] 48)) := (Below.refl _ _).alloc (Nat.le_refl _) _
   have hl4 : Lies (w3.alloc (.cells #[.int .i64 (hiS s), .int .u64 (loN s), .int .i64 (hiS y), .int .u64 (loN y)] 48)) w3.heap.size #[.int .i64 (hiS s), .int .u64 (loN s), .int .i64 (hiS y), .int .u64 (loN y)] 48 := Lies.new _ _ _
   generalize w3.alloc (.cells #[.int .i64 (hiS s), .int .u64 (loN s), .int .i64 (hiS y), .int .u64 (loN y)] 48) = w4 at hb4 hl4 ⊢
   have hw4 := hw3.step hb4
   have hcur := And.intro (range_lies hw4.sum) (HR.out.2.2.2.2.2.2.2 w4 hw4.below).1
   refine ⟨fun _ => hcur, ?_⟩
   simp only [Act.put, List.setIfInBounds_toArray, List.set_cons_zero, List.set_cons_succ]
   refine late_one (i := 8) (by kernel_rfl) _ rfl (wpOp_callG rfl (by rfl) 23 rfl 38 #[.slice (some ⟨w3.heap.size, 0, none⟩) 2 2] (by unfold execOp; simp [go_sem]) _ (ret_of (rplus_two w4 w3.heap.size s y hl4)) ?_)
   rintro v5 w5 ⟨rfl, hb5⟩
   have hw5 := hw4.step hb5
   have hcur := And.intro (range_lies hw5.sum) (HR.out.2.2.2.2.2.2.2 w5 hw5.below).1
   refine ⟨fun _ => hcur, ?_⟩
   obtain ⟨x, hx⟩ : ∃ x, x = s + y := ⟨_, rfl⟩
   rw [← hx]
   obtain ⟨cv, hcv⟩ : ∃ c, c = wC x := ⟨_, rfl⟩
   have hcs : cv.size = 2 := by rw [hcv]; rfl
   have hc1 : cv.all (·.oneCell') = true := by rw [hcv]; exact wC_one _
   rw [show wv x = .agg cv by rw [hcv]; exact wv_wC _]
   simp only [Act.put, List.setIfInBounds_toArray, List.set_cons_zero, List.set_cons_succ]
   obtain ⟨old, hold⟩ : ∃ c, c = (#[.int .i64 (hiS s), .int .u64 (loN s)] : Array Value) := ⟨_, rfl⟩
   have hos : old.size = 2 := by rw [hold]; rfl
   have hwo : Lies w5 (w.heap.size + 1) old 48 := by rw [hold]; exact hw5.sum
   refine late_one (i := 9) (by kernel_rfl) _ rfl (wpOp_storeRow rfl rfl 48 _ _ rfl (w.heap.size + 1) cv rfl rfl 48 old hwo (by rw [hcs]; exact info_wide) (by rw [hos, hcs]) hc1 ?_)
   refine ⟨fun e => (by cases e), ?_⟩
   have hw6 := hw5.set (x := x)
   rw [show (#[.int .i64 (hiS x), .int .u64 (loN x)] : Array Value) = cv from hcv.symm] at hw6
   have hsx : coinS (vs.take (k + 1)) = x := by rw [HR.out.2.2.2.1, hx, hy]
   clear hwo hold hos
   generalize w5.setRow (w.heap.size + 1) cv = w6 at hw6 ⊢
   refine late_done (by kernel_rfl) ?_ _
   unfold NoPanic
   dsimp only
   obtain ⟨pv, hpv⟩ : ∃ q, q = v.pa := ⟨_, rfl⟩
   have hvl : (v.l.length : Int) ≤ 9223372036854775807 := by have := HR.out.2.2.1.2.2.1; unfold maxLen at this; omega
   have H6 := Lib.hid (And.intro hw6 (And.intro hsx hpv))
   clear hcs hc1 hcv hw6 hsx hpv hx hy hcur hw5 hb5 hw4 hb4 hl4 hw3 hb3 hwd
   go_wp2_with fail
   go_loopw [5, 7] (fun sv i W => ∃ j : Nat, j ≤ v.l.length ∧ i = .int .i64 j ∧ RWay w W x sv (L ++ (ctsOf v).take j)) (fun _ i _ => v.l.length - (intOf i).toNat)
   case atStart => exact ⟨0, Nat.zero_le _, rfl, by simpa using H6.out.1⟩
   case round =>
    obtain ⟨j, hj, rfl, hway⟩ := hrel
    have c1 := (HR.out.2.2.2.2.2.2.2 wr hway.below).2
    by_cases hlt : j < v.l.length
    ·
     as_aux_lemma =>
      have n1 : (j : Int) < (v.l.length : Int) := by omega
      have n0 : (0 : Int) ≤ (j : Int) := by omega
      obtain ⟨ga, oa, hpa, hga, hha⟩ := HR.out.2.2.1.2.2.2.2 (by omega)
      rw [hpa] at c1
      obtain ⟨a, ha⟩ : ∃ a, a = v.l[j] := ⟨_, rfl⟩
      have hka : v.l[j]? = some a := by rw [ha, List.getElem?_eq_getElem hlt]
      have oka := HR.out.2.2.1.2.2.2.1 a (List.mem_of_getElem? hka)
      have hrg := (hha.below hway.below hga) j a hka
      have hnx : (ctsOf v).take (j + 1) = (ctsOf v).take j ++ [(a.nm, wide a.amt)] := ctsOf_take hka
      have hok : ∀ p, p ∈ (L ++ (ctsOf v).take j) ++ [(a.nm, wide a.amt)] → p.1.1.length = 32 ∧ p.1.2.length ≤ maxLen := fun p hp => HR.out.2.2.2.2.2.2.1 p (by
       rw [List.append_assoc, ← hnx] at hp
       rcases List.mem_append.1 hp with hp | hp
       ·
        exact List.mem_append_left _ hp
       ·
        exact List.mem_append_right _ (List.mem_of_mem_take hp))
      have hle1 := HR.out.2.2.2.2.2.1 j hj
      have hle2 := HR.out.2.2.2.2.2.1 (j + 1) hlt
      rw [hnx, ← List.append_assoc] at hle2
      obtain ⟨Lj, hLj⟩ : ∃ l, l = L ++ (ctsOf v).take j := ⟨_, rfl⟩
      have hLj' : L ++ (ctsOf v).take (j + 1) = Lj ++ [(a.nm, wide a.amt)] := by rw [hLj, hnx, List.append_assoc]
      rw [← hLj] at hway hok hle1 hle2
      obtain ⟨va, hva⟩ : ∃ v, v = asC a := ⟨_, rfl⟩
      have hvs : va.size = 34 := by rw [hva]; exact asC_size a oka.1
      have hv1 : va.all (·.oneCell') = true := by rw [hva]; exact asC_one a
      rw [← hva] at hrg
      obtain ⟨t, ht⟩ : ∃ t, t = wide a.amt := ⟨_, rfl⟩
      have hwide : ∀ W, Calls Tryz.prog 40 #[.int .i64 a.amt] W fun e w' => e = .returned (wv t) ∧ Below W.heap.size W w' := fun W => by rw [ht]; exact rwide_any W a.amt oka.2.2.1 oka.2.2.2
      rw [← ht] at hLj' hok hle2
      obtain ⟨pp, hpp⟩ : ∃ v, v = B8 a.nm.1 := ⟨_, rfl⟩
      obtain ⟨ts, hts⟩ : ∃ v, v = txt a.nm.2 := ⟨_, rfl⟩
      obtain ⟨ov, hov⟩ : ∃ v, v = toC ⟨a.nm, t⟩ := ⟨_, rfl⟩
      have hpz : (Tryz.prog.info? 26).map (·.size) = some pp.size := by rw [hpp, B8_size, oka.1]; exact info_hash
      have hbuilt : ∀ W, (Instr.build 75 #[(0, .agg pp), (1, .string ts), (2, .agg #[.int .i64 (hiS t), .int .u64 (loN t)])]).run Tryz.prog W = .ok (.agg ov) W := fun W => by
       rw [hpp, hts, hov]
       exact run_build W 75 _ _ (built_tot a oka.1 t)
      have hSa : ∀ U b, Lies U b va 38 → U.rangeAt b 0 pp.toList ∧ U.cell? ⟨b, 32, none⟩ = some (.string ts) ∧ U.cell? ⟨b, 33, none⟩ = some (.int .i64 a.amt) := fun U b hU => by
       rw [hva] at hU
       rw [hpp, hts]
       exact ⟨asC_pol oka.1 hU, hU.cell 32 (asC_txt a oka.1), hU.cell 33 (asC_amt a oka.1)⟩
      have hput : ∀ W sv, RWay w W x sv Lj → ∃ p c, sv = .slice p (putAll [] Lj).length c ∧ Calls Tryz.prog 69 #[.slice p (putAll [] Lj).length c, .agg ov] W fun e w' => (∃ v, e = .returned v ∧ RWay w w' x v (Lj ++ [(a.nm, t)])) ∧ Below W.heap.size W w' := fun W sv hW => by
       obtain ⟨p, c, e, hr⟩ := hW.row
       refine ⟨p, c, e, ?_⟩
       rw [hov]
       exact (put_call W p c Lj ⟨a.nm, t⟩ hr ⟨oka.1, oka.2.1⟩ hle1).mono fun e w' hh => by
        obtain ⟨⟨v, h1, h2⟩, h3⟩ := hh
        exact ⟨⟨v, h1, hW.put hok hle2 h2 h3⟩, h3⟩
      have HI := Lib.hid (And.intro (show (Tryz.prog.info? 38).map (·.size) = some va.size by rw [hvs]; exact info_asset) (And.intro hwide (And.intro hbuilt (And.intro hSa (And.intro hput hpz)))))
      have HJ := Lib.hid (And.intro hway (And.intro hlt (And.intro hLj' (And.intro hvs hv1))))
      have HRG := Lib.hid hrg
      clear hway hlt hj ha hka oka hva hvs hv1 hha hga hrg hnx hok hle1 hle2 hLj hLj' hwide hpp hts hov hpz hbuilt hSa hput ht hpa
      go_upto_region 11 with (first
       | (refine wpList_load_mid rfl 38 _ rfl ga (oa + j * 34) rfl va.toList _ HRG.out Tryz.underlying38 rfl (by rw [Array.length_toList]; exact HI.out.1) ?_)
       | (refine wpList_store_row rfl 38 _ _ rfl wr.heap.size va rfl rfl 38 z34 (Lies.new wr z34 38) HI.out.1 (by rw [HJ.out.2.2.2.1]; kernel_rfl) HJ.out.2.2.2.2 ?_))
      rw [World.setRow_alloc_new]
      obtain ⟨b9, hb9⟩ : ∃ b, b = wr.heap.size := ⟨_, rfl⟩
      have hL9 : Lies (wr.alloc (.cells va 38)) b9 va 38 := by rw [hb9]; exact Lies.new _ _ _
      have hw9 := HJ.out.1.step ((Below.refl _ _).alloc (Nat.le_refl _) (.cells va 38))
      rw [← hb9]
      generalize wr.alloc (.cells va 38) = W9 at hL9 hw9 ⊢
      have HS9 : Hid (∀ U, Below W9.heap.size W9 U → U.rangeAt b9 0 pp.toList ∧ U.cell? ⟨b9, 32, none⟩ = some (.string ts) ∧ U.cell? ⟨b9, 33, none⟩ = some (.int .i64 a.amt)) := Lib.hid fun U hU => HI.out.2.2.2.1 U b9 (hL9.below hU hL9.lt)
      have HW9 := Lib.hid hw9
      clear hL9 hw9 hb9 c1
      refine wp_region_noPanic (wp_region_held (S := fun U => U.rangeAt b9 0 pp.toList ∧ U.cell? ⟨b9, 32, none⟩ = some (.string ts) ∧ U.cell? ⟨b9, 33, none⟩ = some (.int .i64 a.amt)) (by kernel_rfl) ?_)
      change wpAnyH _ _ _ _ _ 11 _ _ (World.drew W9)
      have hbd : Below W9.heap.size W9 W9.drew := (Below.refl _ _).drew
      generalize World.drew W9 = wd9 at hbd ⊢
      have hcur := HS9.out _ hbd
      refine tk 0 (u5) 42 rfl rfl hcur ?_
      refine tk 1 (.pointer (some ⟨b9, 0, none⟩)) 43 rfl rfl hcur ?_
      refine tk 2 (.agg pp) 44 rfl rfl hcur ?_ (by intro w' hS'; exact exec_loadM 26 _ rfl _ _ rfl pp hS'.1 Tryz.underlying26 rfl HI.out.2.2.2.2.2)
      refine tk 3 (.pointer (some ⟨b9, 32, none⟩)) 45 rfl rfl hcur ?_
      refine tk 4 (.string ts) 46 rfl rfl hcur ?_ (by intro w' hS'; have q := hS'.2.1; unfold execOp; simp [go_sem, q])
      refine tk 5 (.pointer (some ⟨b9, 33, none⟩)) 47 rfl rfl hcur ?_
      refine tk 6 (.int .i64 a.amt) 48 rfl rfl hcur ?_ (by intro w' hS'; have q := hS'.2.2; unfold execOp; simp [go_sem, q])
      refine held_one (i := 7) (by kernel_rfl) _ rfl (wpOp_callG rfl (by rfl) 49 rfl 40 #[.int .i64 a.amt] (by unfold execOp; simp [go_sem]) _ (ret_of (HI.out.2.1 _)) ?_)
      rintro v1 w1 ⟨rfl, hb1⟩
      have hc1 := hbd.trans (hb1.mono hbd.size)
      have hcur := HS9.out _ hc1
      refine ⟨hcur, ?_⟩
      unfold wv
      simp only [Act.put, List.setIfInBounds_toArray, List.set_cons_zero, List.set_cons_succ]
      refine held_one (i := 8) (by kernel_rfl) _ rfl (wpOp_valG (v := .agg ov) (w' := w1) rfl (by rfl) 50 rfl (by have hq := HI.out.2.2.1 w1; unfold execOp; simp [go_sem, hq]) ?_)
      refine ⟨hcur, ?_⟩
      simp only [Act.put, List.setIfInBounds_toArray, List.set_cons_zero, List.set_cons_succ]
      have hw1 := HW9.out.step hc1
      obtain ⟨po, co, hu5, hcall⟩ := HI.out.2.2.2.2.1 w1 _ hw1
      have hret : Calls Tryz.prog 69 #[.slice po (putAll [] Lj).length co, .agg ov] w1 fun e w' => ∃ v, e = .returned v ∧ (RWay w w' x v (Lj ++ [(a.nm, t)]) ∧ Below w1.heap.size w1 w') := hcall.mono fun e w' hh => by
       obtain ⟨⟨v, h1, h2⟩, h3⟩ := hh
       exact ⟨v, h1, h2, h3⟩
      refine held_one (i := 9) (by kernel_rfl) _ rfl (wpOp_callG rfl (by rfl) 51 rfl 69 #[.slice po (putAll [] Lj).length co, .agg ov] (by rw [← hu5]; unfold execOp; simp [go_sem]) _ hret ?_)
      rintro v3 w3 ⟨hw3, hb3⟩
      have hc3 := hc1.trans (hb3.mono hc1.size)
      have hcur := HS9.out _ hc3
      refine ⟨hcur, ?_⟩
      simp only [Act.put, List.setIfInBounds_toArray, List.set_cons_zero, List.set_cons_succ]
      have HE := Lib.hid hw3
      clear hw1 hcall hret hu5 hw3 hb3 hc3 hc1 hb1 hbd
      refine tk 10 (v3) 5 rfl rfl hcur ?_
      clear hcur
      refine wpAnyH_done (by kernel_rfl) ?_ _
      unfold NoPanic
      dsimp only
      go_wp2_with fail
      have e1 : (j : Int) + 1 = ((j + 1 : Nat) : Int) := by omega
      rw [e1]
      refine ⟨⟨j + 1, HJ.out.2.1, rfl, by rw [HJ.out.2.2.1]; exact HE.out⟩, ?_⟩
      have h := HJ.out.2.1
      show v.l.length - (j + 1) < v.l.length - j
      omega
    ·
     as_aux_lemma =>
      have n1 : ¬ (j : Int) < (v.l.length : Int) := by omega
      have HE : Hid (RWay w wr x u5 (L ++ ctsOf v)) := Lib.hid (by
       have e : (ctsOf v).take j = ctsOf v := List.take_of_length_le (by unfold ctsOf; rw [List.length_map]; omega)
       rw [e] at hway; exact hway)
      clear hway hlt hj
      go_wp2_with fail
      have e1 : (k : Int) + 1 = ((k + 1 : Nat) : Int) := by omega
      rw [e1]
      refine ⟨⟨k + 1, HR.out.2.1, rfl, by rw [HR.out.2.2.2.2.1, H6.out.2.1]; exact HE.out⟩, ?_⟩
      have h := HR.out.2.1
      show vs.length - (k + 1) < vs.length - k
      omega
  ·
   as_aux_lemma =>
    have m1 : ¬ (k : Int) < (vs.length : Int) := by omega
    have hkk : k = vs.length := by omega
    subst hkk
    rw [List.take_length] at hway
    obtain ⟨po, co, rfl, hro⟩ := hway.row
    have HE := Lib.hid hway
    clear hway hlt hk hro
    go_upto_region 12 with fail
    obtain ⟨cv, hcv⟩ : ∃ c, c = wC (coinS vs) := ⟨_, rfl⟩
    have hcs : cv.size = 2 := by rw [hcv]; rfl
    have hc1 : cv.all (·.oneCell') = true := by rw [hcv]; exact wC_one _
    have hret : wv (coinS vs) = .agg cv := by rw [hcv]; exact wv_wC _
    have hsum : Lies wr (w.heap.size + 1) cv 48 := by rw [hcv]; exact HE.out.sum
    have HS : Hid (∀ U, Below wr.heap.size wr U → Lies U (w.heap.size + 1) cv 48) := Lib.hid fun U hU => hsum.below hU hsum.lt
    have HI := Lib.hid (And.intro (show (Tryz.prog.info? 48).map (·.size) = some cv.size by rw [hcs]; exact info_wide) (And.intro hcs (And.intro hc1 hret)))
    clear hsum hcs hc1 hret hcv m1
    refine wp_region_noPanic (wp_region_held (S := fun U => Lies U (w.heap.size + 1) cv 48) (by kernel_rfl) ?_)
    change wpAnyH _ _ _ _ _ 5 _ _ (World.drew wr)
    have hbd : Below wr.heap.size wr wr.drew := (Below.refl _ _).drew
    have hwd := HE.out.step hbd
    generalize World.drew wr = wd at hbd hwd ⊢
    have hcur := HS.out _ hbd
    obtain ⟨p2, c2, e2, hr2⟩ := hwd.row
    obtain ⟨Lp, hLp⟩ : ∃ n, n = (putAll [] (ctsL vs)).length := ⟨_, rfl⟩
    have hsm := some_call wd p2 c2 (ctsL vs) hr2 H.out.2.1
    rw [← hLp] at e2 hsm ⊢
    simp only [Value.slice.injEq, true_and] at e2
    obtain ⟨rfl, rfl⟩ := e2
    refine tk 0 (.agg cv) 52 rfl rfl hcur ?_ (by intro w' hS'; exact exec_loadM 48 _ rfl _ _ rfl cv (range_lies hS') Tryz.underlying48 rfl HI.out.1)
    refine tk 1 (.slice po Lp co) 53 rfl rfl hcur ?_
    have hsm2 : Calls Tryz.prog 70 #[.slice po Lp co] wd fun e w' => ∃ v, e = .returned v ∧ (∃ p l c, v = .slice p l.length c ∧ RowT w' p l ∧ IsTot (sumAt (ctsL vs)) (ctT l) ∧ Below wd.heap.size wd w') := hsm.mono fun e w' hh => by
     obtain ⟨p, l, c, h1, h2, h3, _, h5⟩ := hh
     exact ⟨_, h1, p, l, c, rfl, h2, h3, h5⟩
    refine held_one (i := 2) (by kernel_rfl) _ rfl (wpOp_callG rfl (by rfl) 54 rfl 70 #[.slice po Lp co] (by unfold execOp; simp [go_sem]) _ hsm2 ?_)
    rintro v1 w1 ⟨pt, lt, ct, rfl, hrow, htt, hb1⟩
    have hc1 := hbd.trans (hb1.mono hbd.size)
    have hcur := HS.out _ hc1
    refine ⟨hcur, ?_⟩
    simp only [Act.put, List.setIfInBounds_toArray, List.set_cons_zero, List.set_cons_succ]
    have hw1 := HE.out.step hc1
    have hres : Lies w1 w.heap.size #[.int .i64 0, .int .u64 0] 48 := hw1.res
    refine held_one (i := 3) (by kernel_rfl) _ rfl (wpOp_storeRow rfl rfl 48 _ _ rfl w.heap.size cv rfl rfl 48 #[.int .i64 0, .int .u64 0] hres HI.out.1 HI.out.2.1.symm HI.out.2.2.1 ?_)
    have hbs := below_setRow hw1.below w.heap.size cv (Nat.le_refl _)
    have hrow2 : RowT (w1.setRow w.heap.size cv) pt lt := hrow.setRow w.heap.size cv hres (by decide)
    have hres2 : Lies (w1.setRow w.heap.size cv) w.heap.size cv 48 := hres.setRow _
    have hsum2 : Lies (w1.setRow w.heap.size cv) (w.heap.size + 1) cv 48 := hcur.setRowOther _ _ (by omega)
    refine ⟨hsum2, ?_⟩
    simp only [Act.put, List.setIfInBounds_toArray, List.set_cons_zero, List.set_cons_succ]
    generalize w1.setRow w.heap.size cv = w2 at hbs hrow2 hres2 hsum2 ⊢
    have hcur := hsum2
    refine tk 4 (.slice pt lt.length ct) 3 rfl rfl hcur ?_
    refine wpAnyH_done (by kernel_rfl) ?_ _
    unfold NoPanic
    dsimp only
    have HZ := Lib.hid (And.intro hbs (And.intro hrow2 (And.intro hres2 htt)))
    clear hbs hrow2 hres2 htt hsum2 hcur hres hw1 hc1 hb1 hrow hsm hsm2 hr2 hwd hbd hLp
    go_wp2_with fail
    refine bodyPost_ret (v := .tuple #[.agg cv, .slice pt lt.length ct]) (results_row_tmp (p := 2) (u := 3) (ty := 48) (by kernel_rfl) _ _ w.heap.size 48 cv (0, 0) _ rfl HZ.out.2.2.1 Tryz.underlying48 rfl HI.out.1) rfl ⟨⟨pt, lt, ct, by rw [HI.out.2.2.2], HZ.out.2.1, HZ.out.2.2.2⟩, HZ.out.1⟩
end Go.Proofs.YtjngghihciimjaaGreat
