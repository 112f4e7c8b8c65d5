/-
  PackOne returns true for any bytes and any sort, and its arguments read as they did. No condition.
-/
import Derived.Test.YtilbbemdinpjcaaGreatJYn
import Derived.Test.YtilbbemdinpjcaaGreatJYp
import Derived.Test.YtilbbemdinpjcaaGreatJWTwo
import Derived.Test.YtilbbemdinpjcaaGreatJWRNew
import Derived.Test.YtilbbemdinpjcaaGreatRows
import Derived.Test.YtilbbemdinpjcaaGreatJQi
set_option maxHeartbeats 16000000
namespace Go.Proofs.YtilbbemdinpjcaaGreat.P
set_option maxRecDepth 100000
open Go.RowKit Go.Sort
theorem tmod_eight (n : Int) : (0 ≤ n.tmod 8 → n.tmod 8 = n % 8) ∧ (n.tmod 8 < 0 → n.tmod 8 + 8 = n % 8) ∧ -7 ≤ n.tmod 8 ∧ n.tmod 8 ≤ 7 := by
 rcases Int.le_total 0 n with h | h
 ·
  have := Int.tmod_eq_emod_of_nonneg (b := 8) h
  omega
 ·
  have h1 := Int.tmod_eq_emod_of_nonneg (b := 8) (show 0 ≤ -n by omega)
  rw [Int.neg_tmod] at h1
  omega
theorem pick_eight (n : Int) (w : World) : Calls Tryz.prog 24 #[.int .i64 n, .int .i64 8] w fun e w' => e = .returned (.int .i64 (n % 8)) ∧ w = w' := by
 obtain ⟨h1, h2, h3, h4⟩ := tmod_eight n
 obtain ⟨r, hr⟩ : ∃ r, n.tmod 8 = r := ⟨_, rfl⟩
 rw [hr] at h1 h2 h3 h4
 obtain ⟨q, hq⟩ : ∃ q, q = n % 8 := ⟨_, rfl⟩
 rw [← hq] at h1 h2 ⊢
 have hw : IntKind.i64.wrap r = r := by rw [IntKind.wrap_i64]; omega
 by_cases h : r < 0
 ·
  have e := h2 h
  have hw2 : IntKind.i64.wrap (r + 8) = q := by rw [IntKind.wrap_i64]; omega
  have HE := Lib.hid e
  clear h1 h2 hq e
  go_enter Tryz.func24, Tryz.ntmps24
  go_wp2
  go_ret
  exact ⟨by rw [← HE.out]; rfl, rfl⟩
 ·
  have e := h1 (by omega)
  subst e
  clear h1 h2 hq
  go_enter Tryz.func24, Tryz.ntmps24
  go_wp2
  go_ret
  exact ⟨rfl, rfl⟩
theorem getTh_any (w : World) (g k : Nat) (xs : List UInt8) (c : Nat) (st0 : Option Nat) (h : W.RSt w g k xs c st0) (hx : xs.length < 1000000) (n : Nat) (hn : n < 8) :
  Calls Tryz.prog 26 #[.pointer (some ⟨g, 0, none⟩), .int .i64 (n : Int)] w (GetTh g k xs c w (getTh xs st0 n)) := by
 obtain rfl | rfl | rfl | rfl | rfl | rfl | rfl | rfl : n = 0 ∨ n = 1 ∨ n = 2 ∨ n = 3 ∨ n = 4 ∨ n = 5 ∨ n = 6 ∨ n = 7 := by omega
 ·
  exact get0_any w g k xs c st0 h hx
 ·
  exact get1_any w g k xs c st0 h hx
 ·
  exact get2_any w g k xs c st0 h hx
 ·
  exact get3_any w g k xs c st0 h hx
 ·
  exact get4_any w g k xs c st0 h hx
 ·
  exact get5_any w g k xs c st0 h hx
 ·
  exact get6_any w g k xs c st0 h hx
 ·
  exact get7_any w g k xs c st0 h hx
theorem putTh_any (w : World) {B g : Nat} {v : Value} {st : Option (List UInt8)} (x : Th) (hT : Stays g w v fun W => ThOk W x) (hi : PutIn x) (h : WrO W.WSt w B g v st) (hx : sz st ≤ 2000) (n : Nat) (hn : n < 8) (hc : cntTh x n ≤ 2000) :
  Calls Tryz.prog 37 #[.pointer (some ⟨g, 0, none⟩), .agg (thC x), .int .i64 (n : Int)] w (PutR W.WSt w B g v (putS st x n)) := by
 obtain rfl | rfl | rfl | rfl | rfl | rfl | rfl | rfl : n = 0 ∨ n = 1 ∨ n = 2 ∨ n = 3 ∨ n = 4 ∨ n = 5 ∨ n = 6 ∨ n = 7 := by omega
 ·
  exact put0_any w x hT hi h hx hc
 ·
  exact put1_any w x hT hi h hx hc
 ·
  exact put2_any w x hT hi h hx hc
 ·
  exact put3_any w x hT hi h hx hc
 ·
  exact put4_any w x hT hi h hx hc
 ·
  exact put5_any w x hT hi h hx hc
 ·
  exact put6_any w x hT hi h hx hc
 ·
  exact put7_any w x hT hi h hx hc
theorem build_thZ (W : World) : (Instr.build 42 #[]).run Tryz.prog W = .ok (.agg (thC thZ)) W := by
 refine run_build W 42 _ _ ?_
 kernel_rfl
theorem run_head (W : World) (A : Option Addr) (N cb p : Nat) (h : p ≤ cb) : (Instr.slice 54 (.slice A N cb) none (some (.int .i64 (p : Int))) none).run Tryz.prog W = .ok (.slice A p cb) W := by
 have hs : (sizeOf (Tryz.prog.elem 54)).run Tryz.prog W = .ok 1 W := by kernel_rfl
 rw [run_slice_h W 54 A N cb (by rw [Tryz.underlying54]; kernel_rfl) .i64 p (by omega) (by omega), hs]
 simp [sliced, Addr.add]
theorem bs_head {V : World} {A : Option Addr} {cb p : Nat} {xs : List UInt8} (h : W.Bs V (.slice A xs.length cb) xs) (hp : p ≤ xs.length) : W.Bs V (.slice A p cb) (xs.take p) ∧ p ≤ cb := by
 have hl : (xs.take p).length = p := by rw [List.length_take]; omega
 rcases h with ⟨h1, rfl⟩ | ⟨ad, c, h1, h2, h3, h4, h5⟩
 ·
  injection h1 with e1 e2 e3
  have hp0 : p = 0 := by simpa using hp
  subst e1 e3 hp0
  exact ⟨.inl ⟨rfl, rfl⟩, Nat.le_refl _⟩
 ·
  injection h1 with e1 e2 e3
  subst e1 e3
  exact ⟨.inr ⟨ad, cb, by rw [hl], by rw [hl]; omega, h3, fun hne => h4 (fun e => hne (by rw [e, List.take_nil])), h5.take p⟩, by omega⟩
attribute [-go_sem] Instr.build
theorem packOne_any (w : World) (bv : Value) (xs : List UInt8) (s : Int) (hb : W.Bs w bv xs) (hxs : xs.length ≤ 140737488355328) :
    Calls Tryz.prog 7 #[bv, .int .i64 s] w fun e w' => e = .returned (.bool true) ∧ Below w.heap.size w w' := by
  obtain ⟨A, cb, rfl⟩ := hb.form
  have HBS := Lib.hid hb
  obtain ⟨N, hN⟩ : ∃ N, N = xs.length := ⟨_, rfl⟩
  have hNl : (N : Int) ≤ 140737488355328 := by omega
  rw [← hN]
  have HN := Lib.hid hN
  clear hb hxs hN
  go_enter Tryz.func7, Tryz.ntmps7
  go_wp2_with fail
  refine (awakeP_more w).mono ?_
  rintro e w1 ⟨rfl, hb1, hp1⟩
  have H1 := Lib.hid (And.intro hb1 hp1)
  clear hb1 hp1
  by_cases hlt : 2000 < N
  · have i1 : (2000 : Int) < (N : Int) := by omega
    clear hlt
    go_wp2_with fail
    go_ret
    exact ⟨rfl, H1.out.1⟩
  have i1 : ¬ (2000 : Int) < (N : Int) := by omega
  have HX := Lib.hid (show xs.length ≤ 2000 by rw [← HN.out]; omega)
  clear hlt
  go_wp2_with fail
  refine (pick_eight s w1).mono ?_
  rintro e _ ⟨rfl, rfl⟩
  obtain ⟨n, hn⟩ : ∃ n : Nat, s % 8 = (n : Int) := ⟨(s % 8).toNat, by omega⟩
  have HK := Lib.hid (show n < 8 by omega)
  rw [hn]
  clear hn
  have hraw := (HBS.out.below H1.out.1).raw
  rw [← HN.out] at hraw
  have HNR := Lib.hid (W.newreader_in w1 _ xs hraw (by have := HX.out; omega) H1.out.2)
  clear hraw
  go_wp2_with fail
  refine HNR.out.mono ?_
  rintro e w2 ⟨g, k, c, rfl, hg2, hk2, hr2, hb2⟩
  have hC := getTh_any w2 g k xs c (some 0) ⟨Nat.zero_le _, hr2⟩ (by have := HX.out; omega) n HK.out
  have HC := Lib.hid hC
  have H2 := Lib.hid (And.intro hb2 hg2)
  clear hg2 hk2 hr2 hb2 HNR hC
  go_wp2_with fail
  refine HC.out.mono ?_
  rintro e w3 ⟨ho3, x, st, rfl, hin3, hr3, hgot⟩
  have hb3 : Below w1.heap.size w1 w3 := ⟨ho3.os.trans H2.out.1.os, ho3.tape.trans H2.out.1.tape, ho3.output.trans H2.out.1.output, Nat.le_trans H2.out.1.size ho3.size, fun j hj => (ho3.block j (Nat.lt_of_lt_of_le hj H2.out.1.size) (by have := H2.out.2; omega) (by simp)).trans (H2.out.1.block j hj)⟩
  obtain ⟨tc, htc⟩ : ∃ t, t = thC x := ⟨_, rfl⟩
  have htz : tc.size = 113 := by rw [htc]; exact thC_size x hin3.o.1 hin3.o.2.1 hin3.r.1
  have hto : tc.all (·.oneCell') = true := by rw [htc]; exact thC_one x
  have hI : (Tryz.prog.info? 42).map (·.size) = some tc.size := by rw [htz]; exact info_thing
  rw [← htc]
  have hsc : (storeCells ⟨w3.heap.size, 0, none⟩ tc.toList 0).run Tryz.prog (w3.alloc (.cells Tryz.zeroCells42 42)) = .ok () (w3.alloc (.cells tc 42)) := run_storeCells_new w3 42 Tryz.zeroCells42 tc hI (by rw [htz]; kernel_rfl) hto
  have hb4 : Below w3.heap.size w3 (w3.alloc (.cells tc 42)) := (Below.refl _ _).alloc (Nat.le_refl _) _
  have hL4 := Lies.new w3 tc 42
  obtain ⟨w4, hw4⟩ : ∃ W, w3.alloc (.cells tc 42) = W := ⟨_, rfl⟩
  rw [hw4] at hsc hb4 hL4
  have hr4 := hr3.below hb4
  have hin4 := hin3.below hb4
  have hE := W.err_rst w4 g k xs c st hr4
  have HE := Lib.hid hE
  have HI := Lib.hid (And.intro hI htc)
  have H4 := Lib.hid (And.intro hL4 (And.intro hr4 (And.intro hin4 (And.intro hgot (H1.out.1.trans ((hb3.trans (hb4.mono hb3.size)).mono H1.out.1.size))))))
  have HBS4 := Lib.hid ((HBS.out.below H1.out.1).below (hb3.trans (hb4.mono hb3.size)))
  clear ho3 hin3 hr3 hgot hb3 htc hto hI hb4 hL4 hr4 hin4 hE HC H2 HBS
  obtain ⟨q, hq⟩ : ∃ q, q = w3.heap.size := ⟨_, rfl⟩
  rw [← hq] at hsc H4
  cases st with
  | none =>
    have HE2 := Lib.hid (show Calls Tryz.prog 30 #[.pointer (some ⟨g, 0, none⟩)] w4 fun e w' => e = .returned (.int .i64 4) ∧ w4 = w' from HE.out)
    have hxz : x = thZ := by
      rcases H4.out.2.2.2.1 with ⟨p, _, h⟩ | ⟨_, h, _⟩
      · cases h
      · exact h
    obtain ⟨zc, hzc⟩ : ∃ z, z = thC thZ := ⟨_, rfl⟩
    have htz2 : tc = zc := by rw [HI.out.2, hxz, hzc]
    have hbz : ∀ W, (Instr.build 42 #[]).run Tryz.prog W = .ok (.agg zc) W := fun W => by rw [hzc]; exact build_thZ W
    have HS := Lib.hid (show Calls Tryz.prog 23 #[.agg zc, .agg zc] w4 fun e w' => e = .returned (.bool true) ∧ Below w4.heap.size w4 w' by
      rw [hzc]
      exact same_yes w4 thZ thZ (thZ_in w4 0).ok (thZ_in w4 0).ok rfl)
    subst htz2
    clear hxz hzc
    rw [hq] at hsc
    go_wp2_with fail
    rw [← hq]
    clear hsc hq hw4
    refine HE2.out.mono ?_
    rintro e _ ⟨rfl, rfl⟩
    go_wp2_with (first
      | (at_builtin; fail)
      | (refine wpList_load_row rfl 42 _ rfl q rfl 42 tc (0, 0) _ H4.out.1 Tryz.underlying42 rfl HI.out.1 ?_))
    refine HS.out.mono ?_
    rintro e w5 ⟨rfl, hb5⟩
    have HF := Lib.hid (H4.out.2.2.2.2.trans (hb5.mono H4.out.2.2.2.2.size))
    clear hb5
    go_wp2_with fail
    go_ret
    exact ⟨rfl, HF.out⟩
  | some p =>
    have HE2 := Lib.hid (show Calls Tryz.prog 30 #[.pointer (some ⟨g, 0, none⟩)] w4 fun e w' => e = .returned (.int .i64 0) ∧ w4 = w' from HE.out)
    have hpl : p ≤ xs.length := H4.out.2.1.1
    have hgp : putS (some []) x n = some (xs.take p) ∧ cntTh x n ≤ p := by
      rcases H4.out.2.2.2.1 with ⟨p', h, e⟩ | ⟨_, _, h⟩
      · obtain rfl := Option.some.inj e
        exact got_put HK.out h
      · cases h
    have HG := Lib.hid (And.intro hgp hpl)
    clear hgp hpl
    rw [hq] at hsc
    go_wp2_with fail
    rw [← hq]
    clear hsc hq hw4
    refine HE2.out.mono ?_
    rintro e _ ⟨rfl, rfl⟩
    go_wp2_with (at_builtin; fail)
    refine (newW_any w4).mono ?_
    rintro e w5 ⟨rfl, ⟨v5, hw5⟩, hb5⟩
    have hL5 := H4.out.1.below hb5 H4.out.1.lt
    have hst : Stays w4.heap.size w5 v5 fun V => ThOk V x := stays_low hw5 hb5 (w0 := w4) fun V hV => H4.out.2.2.1.ok.below hV
    have hC := putTh_any w5 x hst H4.out.2.2.1.put hw5 (by simp only [sz, List.length_nil]; omega) n HK.out (by have := HG.out.1.2; have := HG.out.2; have := HX.out; omega)
    rw [HG.out.1.1, ← HI.out.2] at hC
    obtain ⟨gw, hgw⟩ : ∃ y, y = w4.heap.size := ⟨_, rfl⟩
    have HC := Lib.hid hC
    rw [← hgw] at HC ⊢
    have H5 := Lib.hid (And.intro hL5 (And.intro hb5 (And.intro hw5 hgw)))
    clear hw5 hb5 hL5 hst hC hgw
    go_wp2_with (first
      | (at_builtin; fail)
      | (refine wpList_load_row rfl 42 _ rfl q rfl 42 tc (0, 0) _ H5.out.1 Tryz.underlying42 rfl HI.out.1 ?_))
    refine HC.out.mono ?_
    rintro e w6 ⟨rfl, v6, hw6, hk6⟩
    have hb6 : Below w4.heap.size w5 w6 := hk6.low (by rw [← H5.out.2.2.2]; exact Nat.le_refl _) (fun y e => (H5.out.2.2.1.own y e).1) H5.out.2.1.size
    have HC2 := Lib.hid (bytesW_any w6 hw6 (by simp only [sz, List.length_take]; have := HX.out; omega))
    have H6 := Lib.hid (H5.out.2.1.trans hb6)
    clear hw6 hk6 hb6 HC
    go_wp2_with (at_builtin; fail)
    refine HC2.out.mono ?_
    rintro e w7 ⟨u, er, rfl, her, hown, hb7⟩
    rw [show (if (some (xs.take p) : Option (List UInt8)).isNone = true then (2 : Int) else 0) = 0 from rfl] at her
    subst her
    rw [show bs (some (xs.take p)) = xs.take p from rfl] at hown
    obtain ⟨a7, c7, rfl⟩ := own_len hown
    have hlen : (xs.take p).length = p := by rw [List.length_take]; have := HG.out.2; omega
    have hb74 : Below w4.heap.size w4 w7 := H6.out.trans (hb7.mono H6.out.size)
    have hbsh := bs_head HBS4.out HG.out.2
    have HT1 : Hid (∀ V, Below w7.heap.size w7 V → (convert 54 9 (.slice a7 p c7)).run Tryz.prog V = .ok (.string ⟨(xs.take p).toArray⟩) V) := Lib.hid fun V hV => by
      have h := W.own_text (ownsRow_below hown hV)
      rw [hlen] at h
      exact h
    have HT2 : Hid (∀ V, Below w7.heap.size w7 V → (convert 54 9 (.slice A p cb)).run Tryz.prog V = .ok (.string ⟨(xs.take p).toArray⟩) V) := Lib.hid fun V hV => W.bs_text (hbsh.1.below (hb74.trans (hV.mono hb74.size)))
    have HLF : Hid (∀ V, Below w7.heap.size w7 V → Calls Tryz.prog 28 #[.pointer (some ⟨g, 0, none⟩)] V fun e w' => e = .returned (.int .i64 ((N - p : Nat) : Int)) ∧ Below V.heap.size V w') := Lib.hid fun V hV => by
      rw [HN.out]
      exact W.left_rst V g k xs c (some p) (H4.out.2.1.below (hb74.trans (hV.mono hb74.size)))
    rw [hlen]
    have hsl := fun W => run_head W A N cb p hbsh.2
    obtain ⟨str, hstr⟩ : ∃ y : ByteArray, y = ⟨(xs.take p).toArray⟩ := ⟨_, rfl⟩
    rw [← hstr] at HT1 HT2
    have hsum : IntKind.i64.wrap ((p : Int) + ((N - p : Nat) : Int)) = (N : Int) := by rw [IntKind.wrap_i64]; have := HG.out.2; have := HN.out; omega
    have HB7 := Lib.hid (H4.out.2.2.2.2.trans (hb74.mono H4.out.2.2.2.2.size))
    obtain ⟨lf, hlf⟩ : ∃ y, y = N - p := ⟨_, rfl⟩
    rw [← hlf] at hsum HLF
    clear hown hb7 hlen hb74 hbsh hstr hlf HC2 HE HE2 HG HI H4 H5 H6 HBS4
    go_upto_region 13 with fail
    refine wp_region_noPanic (wp_region_held (S := Below w7.heap.size w7) (by kernel_rfl) ?_)
    change wpAnyH _ _ _ _ _ 23 _ _ (World.drew w7)
    have hcur : Below w7.heap.size w7 w7.drew := (Below.refl _ _).drew
    refine tk 0 (.int .i64 0) 39 rfl rfl hcur ?_
    refine tk 1 (.bool true) 40 rfl rfl hcur ?_
    refine tk 2 (.bool true) 41 rfl rfl hcur ?_
    refine tk 3 (.slice a7 p c7) 42 rfl rfl hcur ?_
    refine tk 4 (.int .i64 (p : Int)) 43 rfl rfl hcur ?_
    refine tk 5 (.pointer (some ⟨g, 0, none⟩)) 44 rfl rfl hcur ?_
    refine tk 8 (.slice A N cb) 47 rfl rfl hcur ?_
    refine tk 9 (.int .i64 (N : Int)) 48 rfl rfl hcur ?_
    generalize w7.drew = V0 at hcur ⊢
    refine held_one (i := 6) (by kernel_rfl) _ rfl (wpOp_callG rfl (by rfl) 45 rfl 28 #[.pointer (some ⟨g, 0, none⟩)] (by unfold execOp; simp [go_sem]) _ (ret_gro (HLF.out _ hcur)) ?_)
    rintro _ U1 ⟨rfl, hn⟩
    have hcur := hcur.trans (hn.mono hcur.size)
    clear hn
    refine ⟨hcur, ?_⟩
    simp only [Act.put, List.setIfInBounds_toArray, List.set_cons_zero, List.set_cons_succ]
    refine tk 7 (.int .i64 (N : Int)) 46 rfl rfl hcur ?_ (by intro w' hS'; unfold execOp; simp [go_sem, hsum])
    refine tk 10 (.bool true) 49 rfl rfl hcur ?_
    refine tk 11 (.bool true) 50 rfl rfl hcur ?_
    refine tk 12 (.bool true) 51 rfl rfl hcur ?_
    refine tk 13 (.slice a7 p c7) 52 rfl rfl hcur ?_
    refine tk 14 (.string str) 53 rfl rfl hcur ?_ (by intro w' hS'; have x0 := HT1.out w' hS'; unfold execOp; simp [go_sem, x0])
    refine tk 15 (.slice A N cb) 54 rfl rfl hcur ?_
    refine tk 16 (.slice a7 p c7) 55 rfl rfl hcur ?_
    refine tk 17 (.int .i64 (p : Int)) 56 rfl rfl hcur ?_
    refine tk 18 (.slice A p cb) 57 rfl rfl hcur ?_ (by intro w' hS'; have x0 := hsl w'; unfold execOp; simp [go_sem, x0])
    refine tk 19 (.string str) 58 rfl rfl hcur ?_ (by intro w' hS'; have x0 := HT2.out w' hS'; unfold execOp; simp [go_sem, x0])
    refine tk 20 (.bool true) 59 rfl rfl hcur ?_
    refine tk 21 (.bool true) 60 rfl rfl hcur ?_
    refine tk 22 (.bool true) 4 rfl rfl hcur ?_
    refine wpAnyH_done (by kernel_rfl) ?_ _
    unfold NoPanic
    dsimp only
    have HF := Lib.hid (HB7.out.trans (hcur.mono HB7.out.size))
    clear hcur hsl hsum
    go_wp2_with fail
    go_ret
    exact ⟨rfl, HF.out⟩
end Go.Proofs.YtilbbemdinpjcaaGreat.P
namespace Go.Proofs.YtilbbemdinpjcaaGreat.P
open Go.ChangeShapes Go.WideShapes Go.ChangeAt Go.RowKit Go.Deep
theorem cellsU8 : Tryz.prog.cellsOf 5 = 1 := by kernel_rfl
theorem bytesU8 : Tryz.prog.bytesOf 5 = 1 := by kernel_rfl
set_option maxRecDepth 100000 in
theorem open_bs {H : Type} {enc : TypeId × Value → H} {V : World} {b0 : Nat} {v : Value} {d : DataW H} {p : List MemPlace} (hv : Value.okWide Tryz.prog V .any b0 54 v) (h : DataW.Trod enc Tryz.prog V 0 (fun _ => true) true 54 v d p) (hreach : ∀ n ∈ d.weights Tryz.prog 54, n ≤ reachBytes) :
  ∃ xs : List UInt8, W.Bs V v xs ∧ xs.length ≤ 140737488355328 := by
 obtain ⟨a0, len, cap, rfl⟩ := okWide_slice Tryz.underlying54 hv
 obtain ⟨fuel, hf⟩ := h
 rcases open_ints Tryz.underlying54 Tryz.underlying5 cellsU8 hf with ⟨hcs, _⟩ | ⟨a, len', cap', zs, hcs, _, hl, hm, hz, hx, hcell, hwz⟩
 ·
  simp only [Value.cells, List.cons.injEq, Value.slice.injEq, and_true] at hcs
  obtain ⟨rfl, rfl, rfl⟩ := hcs
  exact ⟨[], .inl ⟨rfl, rfl⟩, Nat.zero_le _⟩
 ·
  simp only [Value.cells, List.cons.injEq, Value.slice.injEq, and_true] at hcs
  obtain ⟨rfl, rfl, rfl⟩ := hcs
  simp only [if_true] at hz
  have hbyte : ∀ j, j < len → ∃ b : UInt8, zs.getD j 0 = (b.toNat : Int) := fun j hj => byte_of (hwz _ (by
   rw [List.getD_eq_getElem?_getD, List.getElem?_eq_getElem (by omega)]
   exact List.getElem_mem _))
  obtain ⟨xs, hxl, hxs⟩ := list_of (0 : UInt8) (fun j b => zs.getD j 0 = (b.toNat : Int)) len hbyte
  subst hxl
  have hr : reachBytes = 140737488351232 := rfl
  have hd : d = .slice (lits .u8 (zs.take xs.length)) (lits .u8 (zs.drop xs.length)) := (Prod.mk.inj hx).1
  have hw := hreach (((lits .u8 (zs.take xs.length) : List (DataW H)).length + (lits .u8 (zs.drop xs.length) : List (DataW H)).length) * 1) (by
   rw [hd, DataW.weights, Tryz.underlying54]
   simp only [bytesU8]
   exact List.mem_cons_self)
  have hsrc : W.SrcA V a xs := fun j u hu => by
   have hj := (List.getElem?_eq_some_iff.1 hu).1
   rw [Array.length_toList, W.B8_size] at hj
   rw [Array.getElem?_toList, W.B8_get xs j hj, ← hxs j hj] at hu
   rw [← hu]
   exact hcell j (by omega)
  refine ⟨xs, .inr ⟨a, cap, rfl, hl, hm, fun hne => ?_, hsrc⟩, ?_⟩
  ·
   have hp : 0 < xs.length := List.length_pos_iff.2 hne
   have := World.cell?_spot (hsrc 0 _ (List.getElem?_eq_getElem (by rw [Array.length_toList, W.B8_size]; exact hp)))
   simpa [Addr.add] using this
  ·
   simp [lits] at hw
   omega
end Go.Proofs.YtilbbemdinpjcaaGreat.P
namespace Go.Proofs.YtilbbemdinpjcaaGreat.packOne
open Go.ChangeShapes Go.WideShapes Go.ChangeAt Go.RowKit
theorem own : ownKnob Tryz.prog.godebug = none := by kernel_rfl
set_option maxRecDepth 100000 in
theorem lifted (os : Os) (started : os.Started) (H : Type) (enc : TypeId × Value → H) :
  ReturnsInHanded {} Tryz.checked os 7 .any (Rows.packOneSpec.pre6 enc Tryz.prog Tryz.f7 Rows.packOneRow.domain false) (Rows.packOneSpec.post enc Tryz.prog Tryz.f7 false true false false) := by
 refine returnsInHanded_of_change_sized (C := Tryz.checked) own started (by kernel_rfl) Tryz.func7
  (ChangeSpec.witness6 (enc := enc) (C := Tryz.checked) false ⟨#[], #[.slice none 0 0, .int .i64 0], []⟩ 8 (by kernel_rfl) (by kernel_rfl) (by kernel_rfl) (by kernel_rfl)) ?_
 intro W base args ds gs before hval0 hW _ hsz _
 have hval : ∀ (j : Nat) t v, Tryz.f7.params[j]? = some t → args[j]? = some v → Value.okWide Tryz.prog W .any base t v := hval0
 have hW' := hW
 obtain ⟨p, q, hA0, hV, rfl, hfz, hnd⟩ := hW
 have hA : DataW.TrodAll enc Tryz.prog W 0 (fun _ => true) true Tryz.f7.params.toList args.toList ds p := hA0
 have hsz' : (DataW.weightsEach Tryz.prog (Tryz.f7.params.toList ++ Rows.packOneSpec.plain.varTypes Tryz.prog) (ds ++ gs)).all (· ≤ reachBytes) = true := hsz
 rw [Tryz.params7] at hA hval hsz'
 obtain ⟨v0, v1, d0, d1, p0, p1, rfl, rfl, rfl, h0, h1⟩ := trodAll_two hA
 obtain ⟨rfl, rfl⟩ := trodVars_none hV
 simp only [List.append_nil] at hW' hsz'
 have hreach0 : ∀ n ∈ d0.weights Tryz.prog 54, n ≤ reachBytes := fun n hn => of_decide_eq_true (List.all_eq_true.1 hsz' n (DataW.weights_mem_each (j := 0) rfl rfl n hn))
 obtain ⟨xs, hbs, hxs⟩ := P.open_bs (hval 0 54 v0 rfl rfl) h0 hreach0
 obtain ⟨n, rfl, rfl, rfl, w1⟩ := open_int Tryz.underlying3 (hval 1 3 v1 rfl rfl) h1
 clear hA0 hval0 hsz
 refine (P.packOne_any W v0 xs n hbs hxs).mono fun e W' ⟨he, hb⟩ => ?_
 subst he
 have hlt := hW'.lt
 exact ⟨_, rfl, [d0, .lit (.int .i64 n)], [], p0 ++ [], [], p0 ++ [], [], hW', trodAll_cons_mk (shut_bool Tryz.underlying4 _) trodAll_mk0,
  trodAll_mk2 (P.args_stay (by kernel_rfl) (of_decide_eq_true (by kernel_rfl)) h0 hb (fun x hx => hlt x (by simp [hx]))) (shut_int Tryz.underlying3 w1), rfl, hb.frame _, fun h => by cases h⟩
theorem over : Rows.packOneRow.holds Tryz.pinned (OpenSpec.ofChange Rows.packOneSpec) :=
 OpenClaim.holds_of_wide 7 Tryz.f7 rfl rfl rfl rfl rfl rfl rfl ⟨rfl, rfl, rfl, rfl, rfl⟩ rfl rfl rfl rfl rfl (by kernel_rfl) Tryz.func7 (by kernel_rfl)
  (of_decide_eq_true (by kernel_rfl)) (by unfold Func.isWrapper; first | (rw [if_pos (by decide +kernel)]; kernel_rfl) | (rw [if_neg (by decide +kernel)]; exact ⟨rfl, rfl⟩))
  (fun os started H enc _ => lifted os started H enc)
end Go.Proofs.YtilbbemdinpjcaaGreat.packOne
namespace Go.Proofs.YtilbbemdinpjcaaGreat
theorem packOne_said : Rows.PackOneSaid := packOne.over
end Go.Proofs.YtilbbemdinpjcaaGreat
