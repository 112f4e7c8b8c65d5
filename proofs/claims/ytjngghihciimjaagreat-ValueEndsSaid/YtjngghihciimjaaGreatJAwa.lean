/-
  Rows of assets, of whatever lengths, lie apart: all are marked, grown, and looked at.
-/
import Derived.Test.YtjngghihciimjaaGreatJAt
namespace Go.Proofs.YtjngghihciimjaaGreat
set_option maxRecDepth 100000
open Go.RowKit Go.Sort Go.Maps
attribute [-go_sem] Instr.build
attribute [-go_sem] Instr.buildSlice
theorem wpQuiet_sameA {ops : Array Oper} {rest : List Oper} {o : Oper} {a : Act} {C : World → Prop} {Q : Act → Prop} (hw : Region.wanted o (yielded ops a.tmps) = true) (x y : Operand) (ho : o.op = .binOp .eql 38 x y 38)
  (X : Array Value) (heq : ∀ W, (Op.equalIn 10000 38 (.agg X) (.agg X)).run Tryz.prog W = .ok true W) (hx : a.eval x = .agg X) (hy : a.eval y = .agg X)
  (h : wpQuiet Tryz.prog ops C Q rest (a.put o.dst (.bool true))) : wpQuiet Tryz.prog ops C Q (o :: rest) a := by
 unfold wpQuiet
 rw [if_pos hw]
 refine ⟨.bool true, fun w' _ => ?_, h⟩
 unfold Oper.quietAt execOp
 generalize a.eval = ρ at hx hy
 simp [ho, hx, hy, go_sem, heq]
set_option maxHeartbeats 8000000 in
theorem flatA_any (w : World) (L cL B K : Nat) (A : Nat → Option Addr) (G N C : Nat → Nat) (hs : Stt w L B K A G N C) (hK : K ≤ 1000) (hb : ∀ k, k < K → A k ≠ none → Blk 38 34 w (G k) (C k)) :
    Calls Tryz.prog 101 #[.slice (some ⟨L, 0, none⟩) K cL] w fun e w' => e = .returned (.bool true) ∧ Bs 38 34 w w' B K A G C := by
  have hfew := fun k hk => hs.few k hk
  have HK := Lib.hid (And.intro hK hfew)
  have HS := Lib.hid hs
  have hbs0 : Bs 38 34 w w B K A G C := ⟨Below.refl _ _, fun _ _ _ => rfl, hb⟩
  have HB0 := Lib.hid hbs0
  have r0 : (0 : Int) ≤ (K : Int) := by omega
  have r1 : (K : Int) ≤ 1000 := by omega
  clear hs hb hbs0 hK hfew
  go_enter Tryz.func101, Tryz.ntmps101
  go_wp2_with fail
  go_loopw [3] (fun i W => ∃ k : Nat, k ≤ K ∧ i = .int .i64 k ∧ Bs 38 34 w W B K A G C ∧ ∀ i, i < k → Has 34 W (G i) (N i) (mkAc i)) (fun i _ => K - (intOf i).toNat)
  case atStart => exact ⟨0, by omega, rfl, HB0.out, fun i hi => absurd hi (by omega)⟩
  case round =>
    obtain ⟨k, hk, rfl, hbs, hhas⟩ := hrel
    have HBS := Lib.hid (And.intro hbs hhas)
    clear hbs hhas
    by_cases hlt : k < K
    · as_aux_lemma =>
      have m1 : (k : Int) < (K : Int) := by omega
      have m1n : k < K := hlt
      have m0 : (0 : Int) ≤ (k : Int) := by omega
      have rn : (N k : Int) ≤ 100000 := by have := HK.out.2 k hlt; omega
      have HLT := Lib.hid hlt
      clear hlt hk
      go_wp2_with fail
      go_loopw [4] (fun i W => ∃ j : Nat, j ≤ N k ∧ i = .int .i64 j ∧ Bs 38 34 w W B K A G C ∧ (∀ i, i < k → Has 34 W (G i) (N i) (mkAc i)) ∧ Has 34 W (G k) j (mkAc k)) (fun i _ => N k - (intOf i).toNat)
      case atStart => exact ⟨0, by omega, rfl, HBS.out.1, HBS.out.2, Has.zero _ _ _⟩
      case round =>
        obtain ⟨j, hj, rfl, hbs, hhas, hcur0⟩ := hrel
        have c1 := hbs.cell HS.out k HLT.out
        by_cases hlt : j < N k
        · have m2 : (j : Int) < (N k : Int) := by omega
          have m2n : j < N k := hlt
          have m3 : (0 : Int) ≤ (j : Int) := by omega
          have hmk := fun V => mkAc_any V k j (by have := HLT.out; have := HK.out.1; omega) (by have := HK.out.2 k HLT.out; omega)
          have hon := HS.out.pos HLT.out hlt
          have hA := (HS.out.on HLT.out hon).1
          rw [hA] at c1
          have HR := Lib.hid (And.intro hbs (And.intro hhas (And.intro hcur0 (And.intro hlt hon))))
          obtain ⟨X, hX⟩ : ∃ X, X = mkAc k j := ⟨_, rfl⟩
          rw [← hX] at hmk
          have HMK := Lib.hid hmk
          have HX := Lib.hid hX
          clear hbs hhas hcur0 hlt hj hmk hon hA hX
          go_upto_region 7 with fail
          refine wp_region_held (S := fun V => V.cell? ⟨L, k, none⟩ = some (.slice (some ⟨G k, 0, none⟩) (N k) (C k))) (by kernel_rfl) ?_
          change wpAnyH _ _ _ _ _ 10 _ _ (World.drew wr)
          have hcur : wr.drew.cell? ⟨L, k, none⟩ = some (.slice (some ⟨G k, 0, none⟩) (N k) (C k)) := c1
          have hmk := HMK.out wr.drew
          refine tk 0 (.slice (some ⟨L, 0, none⟩) K cL) 31 rfl rfl hcur ?_
          refine tk 1 (.int .i64 k) 32 rfl rfl hcur ?_
          refine tk 2 (.pointer (some ⟨L, k, none⟩)) 33 rfl rfl hcur ?_ (by intro w' hS'; unfold execOp; simp [go_sem, m0, m1, m1n])
          refine tk 3 (.slice (some ⟨G k, 0, none⟩) (N k) (C k)) 34 rfl rfl hcur ?_ (by intro w' hS'; have h1 : w'.cell? ⟨L, k, none⟩ = some (.slice (some ⟨G k, 0, none⟩) (N k) (C k)) := hS'; unfold execOp; simp [go_sem, h1])
          refine tk 4 (.int .i64 j) 35 rfl rfl hcur ?_
          refine tk 5 (.int .i64 k) 36 rfl rfl hcur ?_
          refine tk 6 (.int .i64 j) 37 rfl rfl hcur ?_
          refine held_one (i := 7) (by kernel_rfl) _ rfl (wpOp_callTo rfl rfl 38 rfl 65 #[.int .i64 k, .int .i64 j] (by unfold execOp; simp [go_sem]) (fun v w' => v = .agg X ∧ Below wr.drew.heap.size wr.drew w') (hmk.mono fun e w' hh => ⟨_, hh.1, rfl, hh.2⟩) ?_)
          rintro v5 w5 ⟨rfl, hb5⟩
          have hb5' : Below wr.heap.size wr w5 := ⟨hb5.os, hb5.tape, hb5.output, hb5.size, hb5.block⟩
          have hbs5 : Bs 38 34 w w5 B K A G C := HR.out.1.calls HS.out.bb hb5'
          have hcur5 := hbs5.cell HS.out k HLT.out
          rw [(HS.out.on HLT.out HR.out.2.2.2.2).1] at hcur5
          refine ⟨hcur5, ?_⟩
          simp only [Act.put, List.setIfInBounds_toArray, List.set_cons_zero, List.set_cons_succ]
          refine tk 8 (.pointer (some ⟨G k, j * 34, none⟩)) 39 rfl rfl hcur5 ?_ (by intro w' hS'; unfold execOp; simp [go_sem, m2, m2n, m3])
          have hXl : X.toList.length = 34 := by rw [HX.out, Array.length_toList]; exact mkAc_size k j
          have hbs7 : Bs 38 34 w (w5.setCells (G k) (j * 34) X.toList) B K A G C := hbs5.mark HS.out HLT.out HR.out.2.2.2.2 _ _
          have hcur7 := hbs7.cell HS.out k HLT.out
          rw [(HS.out.on HLT.out HR.out.2.2.2.2).1] at hcur7
          refine held_one (i := 9) (by kernel_rfl) _ rfl (wpOp_storeE rfl rfl rfl 38 (.tmp 39) (.tmp 38) rfl (G k) (j * 34) X rfl rfl (by rw [HX.out, mkAc_size]; exact hbs5.there HS.out HLT.out HR.out.2.2.2.1) (by rw [HX.out, mkAc_size]; exact infoSA) (by rw [HX.out]; exact mkAc_one k j) ⟨hcur7, ?_⟩)
          refine wpAnyH_done (by kernel_rfl) ?_ _
          have H7 := Lib.hid (show Bs 38 34 w (w5.setCells (G k) (j * 34) X.toList) B K A G C ∧ (∀ i, i < k → Has 34 (w5.setCells (G k) (j * 34) X.toList) (G i) (N i) (mkAc i)) ∧ Has 34 (w5.setCells (G k) (j * 34) X.toList) (G k) (j + 1) (mkAc k) from
            ⟨hbs7, fun i hi => by
              have hiK : i < K := by have := HLT.out; omega
              by_cases ha : A i ≠ none
              · exact ((HR.out.2.1 i hi).below hb5' (HR.out.1.blk i hiK ha).lt).setOther (HS.out.ne i k hiK HLT.out (by omega) ha HR.out.2.2.2.2) _ _
              · exact has_off HS.out hiK ha,
             by rw [HX.out]; exact (HR.out.2.2.1.below hb5' (HR.out.1.blk k HLT.out HR.out.2.2.2.2).lt).step (hbs5.blk k HLT.out HR.out.2.2.2.2) (by have := HR.out.2.2.2.1; have := (HS.out.on HLT.out HR.out.2.2.2.2).2.1; omega) (mkAc_size k)⟩)
          generalize w5.setCells (G k) (j * 34) X.toList = W7 at H7 hcur7 ⊢
          clear hbs7 hbs5 hcur5 hcur7 hb5 hb5' hcur hmk c1 hXl
          go_wp2_with fail
          refine ⟨⟨j + 1, by have := HR.out.2.2.2.1; omega, by go_num, H7.out⟩, ?_⟩
          have := HR.out.2.2.2.1
          simp [intOf]; omega
        · have hj2 : j = N k := by omega
          subst hj2
          have m2 : decide ((N k : Int) < (N k : Int)) = false := by simp
          have m2n : ¬ N k < N k := by omega
          have HX := Lib.hid (And.intro hbs (And.intro hhas hcur0))
          clear hbs hhas hcur0 hlt hj
          go_wp2_with fail
          refine ⟨⟨k + 1, by have := HLT.out; omega, by go_num, HX.out.1, fun i hi => ?_⟩, ?_⟩
          · by_cases e : i = k
            · rw [e]; exact HX.out.2.2
            · exact HX.out.2.1 i (by omega)
          · have := HLT.out
            simp [intOf]; omega
    · as_aux_lemma =>
      obtain rfl : k = K := by omega
      have m1 : decide ((k : Int) < (k : Int)) = false := by simp
      have m1n : ¬ k < k := by omega
      clear hlt hk
      obtain ⟨cs, hcs, hci, hms⟩ := make_rowsA k wr (by have := HK.out.1; omega)
      have hbW : Below wr.heap.size wr (wr.alloc (.cells cs 22)) := (Below.refl _ _).alloc (Nat.le_refl _) _
      have hp0 : Ph 38 22 34 mkAc w (wr.alloc (.cells cs 22)) B k wr.heap.size (fun i => N i + 64) A G N C (fun _ => 0) (fun _ => 0) (fun _ => .slice none 0 0) 0 :=
        ⟨HBS.out.1.calls HS.out.bb hbW, fun i hi => by
          by_cases ha : A i ≠ none
          · exact (HBS.out.2 i hi).below hbW (HBS.out.1.blk i hi ha).lt
          · exact has_off HS.out hi ha,
          ⟨cs, Lies.new wr cs 22, hcs, fun i hi => by rw [hci i hi]; simp [cellS]⟩, fun i hi => absurd hi (by omega)⟩
      have hSW : w.heap.size ≤ wr.heap.size := HBS.out.1.size
      have hSG : ∀ i, i < k → A i ≠ none → wr.heap.size ≠ G i := fun i hi ha => by have := (HBS.out.1.blk i hi ha).lt; omega
      go_upto_region 9 with fail
      generalize wr.alloc (.cells cs 22) = W1 at hp0 ⊢
      clear hms hbW hcs hci
      obtain ⟨S, hS⟩ : ∃ S, S = wr.heap.size := ⟨_, rfl⟩
      rw [← hS] at hp0 hSW hSG ⊢
      have HSF := Lib.hid (And.intro hSW hSG)
      have HP0 := Lib.hid hp0
      clear hp0 hSW hSG hS HBS m1 m1n
      obtain ⟨K, hKe⟩ : ∃ K, K = k := ⟨_, rfl⟩
      subst hKe
      go_wp2_with fail
      go_loopw [6] (fun i W => ∃ k : Nat, k ≤ K ∧ i = .int .i64 k ∧ ∃ H D, Ph 38 22 34 mkAc w W B K S (fun i => N i + 64) A G N C H D (fun _ => .slice none 0 0) k) (fun i _ => K - (intOf i).toNat)
      case atStart => exact ⟨0, by omega, rfl, _, _, HP0.out⟩
      case round =>
        obtain ⟨k, hk, rfl, H, D, hp⟩ := hrel
        by_cases hlt : k < K
        · as_aux_lemma =>
          have m1 : (k : Int) < (K : Int) := by omega
          have m1n : k < K := hlt
          have m0 : (0 : Int) ≤ (k : Int) := by omega
          have c1 := hp.bs.cell HS.out k hlt
          have HLT := Lib.hid hlt
          have HP := Lib.hid hp
          clear hlt hk hp
          go_wp2_with fail
          go_loopw [7, 8] (fun g i W => ∃ (j h d : Nat) (a : Option Addr), j ≤ 64 ∧ i = .int .i64 j ∧ g = .slice a (N k + j) d ∧ Gr 38 22 34 mkAc w W B K S (fun i => N i + 64) A G N C H D (fun _ => .slice none 0 0) k j a h d) (fun _ i _ => 64 - (intOf i).toNat)
          case atStart => exact ⟨0, G k, C k, A k, by omega, rfl, rfl, Gr.start HP.out HS.out mkAc_size (by decide) HLT.out HSF.out.2⟩
          case round =>
            clear c1
            obtain ⟨j, h, d, a, hj, rfl, rfl, hgr⟩ := hrel
            by_cases hlt : j < 64
            · have m2 : (j : Int) < 64 := by omega
              have c1 := hgr.ph.bs.cell HS.out k HLT.out
              have eN : IntKind.i64.wrap ((N k : Int) + (j : Int)) = ((N k + j : Nat) : Int) := by have := HK.out.2 k HLT.out; rw [IntWalk.i64_in _ (by omega)]; omega
              have hmk := mkAc_any wr k (N k + j) (by have := HLT.out; have := HK.out.1; omega) (by have := HK.out.2 k HLT.out; omega)
              have HG := Lib.hid (And.intro hgr hlt)
              obtain ⟨X, hX⟩ : ∃ X, X = mkAc k (N k + j) := ⟨_, rfl⟩
              rw [← hX] at hmk
              have hXs : X.size = 34 := by rw [hX]; exact mkAc_size _ _
              have hsl : ∀ W : World, (Instr.buildSlice 22 1 #[(0, .agg X)]).run Tryz.prog W = .ok (.slice (some ⟨W.heap.size, 0, none⟩) 1 1) (W.alloc (.cells X 38)) := fun W => run_slice1 W 22 38 34 56 X Tryz.underlying22 info54 (by decide) (by decide) hXs
              have HMK := Lib.hid hmk
              have HX := Lib.hid hX
              clear hgr hmk hlt hj hXs hX
              obtain ⟨n1, hn1⟩ : ∃ n, n = N k + j := ⟨_, rfl⟩
              rw [← hn1] at eN HMK ⊢
              have HN := Lib.hid hn1
              clear hn1
              go_wp2_with (first
                | (go_at_call 65; refine HMK.out.mono ?_; rintro e w5 ⟨rfl, hb5⟩
                   have hb6 : Below wr.heap.size wr (w5.alloc (.cells X 38)) := hb5.alloc hb5.size _
                   have hg6 := HG.out.1.calls HS.out hb6
                   have H6 := Lib.hid hg6
                   have HSZ := Lib.hid (show B ≤ (w5.alloc (.cells X 38)).heap.size from Nat.le_trans HS.out.bb hg6.ph.bs.size)
                   have HSRC := Lib.hid (src_newE (W := w5) (x := X) (e := 38))
                   clear hb5 hb6 hg6)
                | (at_builtin; go_must (refine wpList_moreE rfl _ _ _ rfl B 38 34 56 Tryz.underlying22 info54 a n1 d (flatC (mkAc k) n1) rfl (by rw [HN.out]; exact H6.out.row) ⟨w5.heap.size, 0, none⟩ 1 1 X.toList rfl (by rw [HX.out, Array.length_toList, mkAc_size]) HSRC.out (by rw [HX.out]; exact list_one (mkAc_one _ _)) (by decide) (by have := HK.out.2 k HLT.out; have := HG.out.2; have := HN.out; unfold maxLen; omega) (by have := HK.out.2 k HLT.out; have := HG.out.2; have := HN.out; omega) HSZ.out ?_)
                   intro g' c' w7 hrow hch
                   rw [HN.out, HX.out] at hrow
                   have H7 := Lib.hid (H6.out.step HS.out mkAc_size HLT.out hrow hch)
                   clear hrow hch))
              refine ⟨⟨j + 1, g', c', _, by have := HG.out.2; omega, by go_num, by rw [HN.out]; rfl, H7.out⟩, ?_⟩
              have := HG.out.2
              simp [intOf]; omega
            · obtain rfl : j = 64 := by omega
              have m2 : decide (((64 : Nat) : Int) < 64) = false := by decide
              have hkl := HLT.out
              obtain rfl : a = some ⟨h, 0, none⟩ := by
                rcases hgr.is with e | e
                · have hr := hgr.row.2
                  rw [e] at hr
                  rcases hr with ⟨_, h0⟩ | ⟨g, cap, cur, h1, _⟩
                  · omega
                  · cases h1
                · exact e
              have hne : (some ⟨h, 0, none⟩ : Option Addr) ≠ none := by simp
              have cS := hgr.ph.cellAt HLT.out
              have fS := hgr.ph.free k
              have hst := hgr.ph.store HS.out HSF.out.1 HSF.out.2 HLT.out (has_row (mkAc_size k) hgr.row) (blk_row hgr.row).1.lt (hgr.nS hne) (hgr.nG hne) (d := d)
              have HX := Lib.hid hst
              clear hgr hst hlt hj hne
              obtain ⟨n64, hn64⟩ : ∃ n, n = N k + 64 := ⟨_, rfl⟩
              rw [← hn64] at HX ⊢
              clear hn64
              go_wp2_with fail
              refine ⟨⟨k + 1, by have := HLT.out; omega, by go_num, _, _, HX.out⟩, ?_⟩
              have := HLT.out
              simp [intOf]; omega
        · as_aux_lemma =>
          obtain rfl : k = K := by omega
          have m1 : decide ((k : Int) < (k : Int)) = false := by simp
          have m1n : ¬ k < k := by omega
          have HP := Lib.hid hp
          obtain ⟨W2, hW2⟩ : ∃ W2, W2 = wr := ⟨_, rfl⟩
          have hb2 : Below W2.heap.size W2 wr := by rw [hW2]; exact Below.refl _ _
          rw [← hW2] at HP
          have HB2 := Lib.hid hb2
          clear hlt hk hp hW2 hb2
          go_upto_region 18 with fail
          clear m1 m1n
          obtain ⟨K, hKe⟩ : ∃ K, K = k := ⟨_, rfl⟩
          subst hKe
          go_wp2_with fail
          go_loopw [9] (fun i W => ∃ k : Nat, k ≤ K ∧ i = .int .i64 k ∧ Below W2.heap.size W2 W) (fun i _ => K - (intOf i).toNat)
          case atStart => exact ⟨0, by omega, rfl, HB2.out⟩
          case round =>
            clear HB2
            obtain ⟨k, hk, rfl, hb⟩ := hrel
            by_cases hlt : k < K
            · as_aux_lemma =>
              have m1 : (k : Int) < (K : Int) := by omega
              have m1n : k < K := hlt
              have m0 : (0 : Int) ≤ (k : Int) := by omega
              have HLT := Lib.hid hlt
              clear hlt hk
              have HB := Lib.hid hb
              clear hb
              obtain ⟨M, hM⟩ : ∃ M, M = N k + 64 := ⟨_, rfl⟩
              have rn : (M : Int) ≤ 200000 := by have := HK.out.2 k HLT.out; omega
              have HM := Lib.hid hM
              clear hM
              go_wp2_with fail
              go_loopw [10] (fun i W => ∃ j : Nat, j ≤ M ∧ i = .int .i64 j ∧ Below W2.heap.size W2 W) (fun i _ => M - (intOf i).toNat)
              case atStart => exact ⟨0, by omega, rfl, HB.out⟩
              case round =>
                clear HB
                obtain ⟨j, hj, rfl, hb⟩ := hrel
                have hp := HP.out.calls HS.out hb
                have cS := hp.cell k HLT.out
                rw [← HM.out] at cS
                by_cases hlt : j < M
                · have cL := hp.bs.cell HS.out k HLT.out
                  have m2 : (j : Int) < (M : Int) := by omega
                  have m2n : j < M := hlt
                  have m3 : (0 : Int) ≤ (j : Int) := by omega
                  have h1 := (hp.got k HLT.out).1 j (by rw [HM.out] at hlt; exact hlt)
                  have hlt1 := (hp.got k HLT.out).2.1
                  have hmk := fun W => mkAc_any W k j (by have := HLT.out; have := HK.out.1; omega) (by have := HK.out.2 k HLT.out; have := HM.out; omega)
                  have heq : ∀ X, X = mkAc k j → (∀ W, (Op.equalIn 10000 38 (.agg X) (.agg X)).run Tryz.prog W = .ok true W) := fun X hX => by rw [hX]; exact mkAc_eq k j
                  have hsz : (mkAc k j).size = 34 := mkAc_size k j
                  have rS := fun d os => cell_regrown cS d os
                  have rL := fun d os => cell_regrown cL d os
                  by_cases hl : j < N k
                  · as_aux_lemma =>
                    have hon := HS.out.pos HLT.out hl
                    have hA := (HS.out.on HLT.out hon).1
                    rw [hA] at cL rL
                    have h2 := hp.has k HLT.out j hl
                    have hlt2 := (hp.bs.blk k HLT.out hon).lt
                    have m4 : (j : Int) < (N k : Int) := by omega
                    have m4n : j < N k := hl
                    generalize hXe : mkAc k j = X at h1 h2 hmk hsz
                    have HX := Lib.hid (And.intro (And.intro h1 hlt1) (And.intro (heq X hXe.symm) (And.intro (And.intro h2 hlt2) (show (Tryz.prog.info? 38).map (·.size) = some X.size by rw [hsz]; exact infoSA))))
                    have HMK := Lib.hid hmk
                    have HB := Lib.hid (And.intro hb hlt)
                    clear h1 h2 hmk hb hp hl hlt hj heq hsz hlt1 hlt2 hon hA hXe
                    go_upto_region 24 with fail
                    refine wp_region_quiet_below (by kernel_rfl) (by kernel_rfl) ?_
                    iterate 6 (first | go_big_quiet_step (fail) | quiet_step (fail))
                    refine wpQuiet_loadE (by rfl) 38 _ rfl (H k) (j * 34) rfl X _ HX.out.1.1 HX.out.1.2 Tryz.underlying38 rfl HX.out.2.2.2 ?_
                    iterate 2 (first | go_big_quiet_step (fail) | quiet_step (fail))
                    quiet_step ((go_at_call 65; with_reducible exact Calls.regrown_of (HMK.out _)))
                    refine wpQuiet_sameA (by rfl) _ _ rfl X HX.out.2.1 rfl rfl ?_
                    iterate 16 (first | go_big_quiet_step (fail) | quiet_step (fail))
                    refine wpQuiet_loadE (by rfl) 38 _ rfl (G k) (j * 34) rfl X _ HX.out.2.2.1.1 HX.out.2.2.1.2 Tryz.underlying38 rfl HX.out.2.2.2 ?_
                    iterate 2 (first | go_big_quiet_step (fail) | quiet_step (fail))
                    quiet_step ((go_at_call 65; with_reducible exact Calls.regrown_of (HMK.out _)))
                    refine wpQuiet_sameA (by rfl) _ _ rfl X HX.out.2.1 rfl rfl ?_
                    iterate 3 (first | go_big_quiet_step (fail) | quiet_step (fail))
                    refine wpQuiet_nil ?_
                    rintro w5 ⟨p, hw5⟩
                    have HB5 : Hid (Below W2.heap.size W2 w5) := Lib.hid (by rw [hw5]; exact HB.out.1.trans ((below_regrown wr p.d p.os).mono HB.out.1.size))
                    clear hw5 HX
                    go_wp2_with fail
                    refine ⟨⟨j + 1, by have := HB.out.2; omega, by go_num, HB5.out⟩, ?_⟩
                    have := HB.out.2
                    simp [intOf]; omega
                  · as_aux_lemma =>
                    have m4 : decide (j < N k) = false := by simp; omega
                    have m5 : decide ((j : Int) < (N k : Int)) = false := by simp; omega
                    generalize hXe : mkAc k j = X at h1 hmk hsz
                    have HX := Lib.hid (And.intro (And.intro h1 hlt1) (And.intro (heq X hXe.symm) (show (Tryz.prog.info? 38).map (·.size) = some X.size by rw [hsz]; exact infoSA)))
                    have HMK := Lib.hid hmk
                    have HB := Lib.hid (And.intro hb hlt)
                    clear h1 hmk hb hp hl hlt hj heq hsz hlt1 hXe
                    go_upto_region 24 with fail
                    refine wp_region_quiet_below (by kernel_rfl) (by kernel_rfl) ?_
                    iterate 6 (first | go_big_quiet_step (fail) | quiet_step (fail))
                    refine wpQuiet_loadE (by rfl) 38 _ rfl (H k) (j * 34) rfl X _ HX.out.1.1 HX.out.1.2 Tryz.underlying38 rfl HX.out.2.2 ?_
                    iterate 2 (first | go_big_quiet_step (fail) | quiet_step (fail))
                    quiet_step ((go_at_call 65; with_reducible exact Calls.regrown_of (HMK.out _)))
                    refine wpQuiet_sameA (by rfl) _ _ rfl X HX.out.2.1 rfl rfl ?_
                    iterate 24 (first | go_big_quiet_step (fail) | quiet_step (fail))
                    refine wpQuiet_nil ?_
                    rintro w5 ⟨p, hw5⟩
                    have HB5 : Hid (Below W2.heap.size W2 w5) := Lib.hid (by rw [hw5]; exact HB.out.1.trans ((below_regrown wr p.d p.os).mono HB.out.1.size))
                    clear hw5 HX
                    go_wp2_with fail
                    refine ⟨⟨j + 1, by have := HB.out.2; omega, by go_num, HB5.out⟩, ?_⟩
                    have := HB.out.2
                    simp [intOf]; omega
                · obtain rfl : j = M := by omega
                  have m2 : decide ((j : Int) < (j : Int)) = false := by simp
                  have m2n : ¬ j < j := by omega
                  have HB := Lib.hid hb
                  clear hb hp hlt hj
                  go_wp2_with fail
                  refine ⟨⟨k + 1, by have := HLT.out; omega, by go_num, HB.out⟩, ?_⟩
                  have := HLT.out
                  simp [intOf]; omega
            · as_aux_lemma =>
              obtain rfl : k = K := by omega
              have m1 : decide ((k : Int) < (k : Int)) = false := by simp
              have m1n : ¬ k < k := by omega
              have HPB := Lib.hid ((HP.out.calls HS.out hb).again N (fun _ => 0) (fun _ => 0))
              clear hlt hk hb
              go_upto_region 26 with fail
              clear m1 m1n
              obtain ⟨K, hKe⟩ : ∃ K, K = k := ⟨_, rfl⟩
              subst hKe
              go_wp2_with fail
              go_loopw [11] (fun i W => ∃ k : Nat, k ≤ K ∧ i = .int .i64 k ∧ ∃ H' D', Ph 38 22 34 mkAc w W B K S N A G N C H' D' (fun i => .slice (some ⟨H i, 0, none⟩) (N i + 64) (D i)) k) (fun i _ => K - (intOf i).toNat)
              case atStart => exact ⟨0, by omega, rfl, _, _, HPB.out⟩
              case round =>
                clear HPB
                obtain ⟨k, hk, rfl, H', D', hp⟩ := hrel
                by_cases hlt : k < K
                · as_aux_lemma =>
                  have m1 : (k : Int) < (K : Int) := by omega
                  have m1n : k < K := hlt
                  have m0 : (0 : Int) ≤ (k : Int) := by omega
                  have HLT := Lib.hid hlt
                  obtain ⟨V, hV⟩ : ∃ V, V = wr := ⟨_, rfl⟩
                  have hq : Ph 38 22 34 mkAc w V B K S N A G N C H' D' (fun i => .slice (some ⟨H i, 0, none⟩) (N i + 64) (D i)) k := by rw [hV]; exact hp
                  have HQ := Lib.hid hq
                  clear hlt hk hp hq
                  obtain ⟨cs, hcs, hmk⟩ := make64A wr
                  have hb4 : Below wr.heap.size V (wr.alloc (.cells cs 38)) := by rw [hV]; exact (Below.refl _ _).alloc (Nat.le_refl _) _
                  have hblk : Blk 38 34 (wr.alloc (.cells cs 38)) wr.heap.size 64 := ⟨cs, Lies.new _ _ _, hcs⟩
                  have H4 := Lib.hid (And.intro hb4 (And.intro hblk (Has.zero (sz := 34) (wr.alloc (.cells cs 38)) wr.heap.size (mkAc (k + K)))))
                  clear hcs hb4 hblk
                  go_upto_region 30 with fail
                  clear hmk
                  generalize wr.alloc (.cells cs 38) = W4 at H4 ⊢
                  obtain ⟨M, hM⟩ : ∃ M, M = wr.heap.size := ⟨_, rfl⟩
                  rw [← hM] at H4 ⊢
                  have HM := Lib.hid (show M = V.heap.size by rw [hV]; exact hM)
                  clear hM hV
                  go_wp2_with fail
                  go_loopw [13] (fun i W => ∃ j : Nat, j ≤ 64 ∧ i = .int .i64 j ∧ Below M V W ∧ Blk 38 34 W M 64 ∧ Has 34 W M j (mkAc (k + K))) (fun i _ => 64 - (intOf i).toNat)
                  case atStart => exact ⟨0, by omega, rfl, H4.out⟩
                  case round =>
                    clear H4
                    obtain ⟨j, hj, rfl, hb, hbl, hhas⟩ := hrel
                    by_cases hlt : j < 64
                    · as_aux_lemma =>
                      have m2 : (j : Int) < 64 := by omega
                      have m3 : (0 : Int) ≤ (j : Int) := by omega
                      obtain ⟨q, hq⟩ : ∃ q, q = k + K := ⟨_, rfl⟩
                      have e2 : IntKind.i64.wrap ((k : Int) + (K : Int)) = (q : Int) := by have := HK.out.1; rw [IntWalk.i64_in _ (by omega)]; omega
                      have hmk := mkAc_any wr q j (by have := HLT.out; have := HK.out.1; omega) (by omega)
                      rw [← hq] at hhas ⊢
                      obtain ⟨X, hX⟩ : ∃ X, X = mkAc q j := ⟨_, rfl⟩
                      rw [← hX] at hmk
                      have HG := Lib.hid (And.intro hb (And.intro hbl (And.intro hhas (And.intro hlt hX))))
                      have HMK := Lib.hid hmk
                      clear hb hbl hhas hmk hlt hj hX hq
                      go_wp2_with (first
                        | (go_at_call 65; refine HMK.out.mono ?_; rintro e w5 ⟨rfl, hb5⟩
                           have H5 := Lib.hid (show Below M V w5 ∧ Blk 38 34 w5 M 64 ∧ Has 34 w5 M j (mkAc q) from ⟨HG.out.1.trans (hb5.mono (Nat.le_of_lt HG.out.2.1.lt)), HG.out.2.1.below hb5 HG.out.2.1.lt, HG.out.2.2.1.below hb5 HG.out.2.1.lt⟩)
                           clear hb5)
                        | (refine wpList_store_mid rfl 38 _ _ rfl M (j * 34) X rfl rfl (by rw [HG.out.2.2.2.2, mkAc_size]; exact H5.out.2.1.there j HG.out.2.2.2.1) (by rw [HG.out.2.2.2.2, mkAc_size]; exact infoSA) (by rw [HG.out.2.2.2.2]; exact mkAc_one _ _) ?_
                           have H7 := Lib.hid (show Below M V (w5.setCells M (j * 34) X.toList) ∧ Blk 38 34 (w5.setCells M (j * 34) X.toList) M 64 ∧ Has 34 (w5.setCells M (j * 34) X.toList) M (j + 1) (mkAc q) from
                             ⟨below_setCellsA (Nat.le_refl _) _ _ _ H5.out.1, H5.out.2.1.setCells _ _, by rw [HG.out.2.2.2.2]; exact H5.out.2.2.step H5.out.2.1 HG.out.2.2.2.1 (mkAc_size _)⟩)
                           generalize w5.setCells M (j * 34) X.toList = w7 at H7 ⊢))
                      refine ⟨⟨j + 1, by have := HG.out.2.2.2.1; omega, by go_num, H7.out⟩, ?_⟩
                      have := HG.out.2.2.2.1
                      simp [intOf]; omega
                    · as_aux_lemma =>
                      obtain rfl : j = 64 := by omega
                      have m2 : decide (((64 : Nat) : Int) < 64) = false := by decide
                      have hpw := HQ.out.calls HS.out (by rw [← HM.out]; exact hb)
                      have c1 := hpw.bs.cell HS.out k HLT.out
                      have hgs := Gr.start hpw HS.out mkAc_size (by decide) HLT.out HSF.out.2
                      have HX := Lib.hid (And.intro hgs (src_mark (mkAc_size (k + K)) (by decide) hhas))
                      have HSZ := Lib.hid (show B ≤ wr.heap.size from Nat.le_trans HS.out.bb hpw.bs.size)
                      clear hpw hgs hb hbl hhas hlt hj
                      obtain ⟨a, ha⟩ : ∃ a, a = A k := ⟨_, rfl⟩
                      rw [← ha] at c1 HX
                      have hnk := HK.out.2 k HLT.out
                      have HNK := Lib.hid hnk
                      clear ha hnk
                      go_wp2_with (first
                        | (at_builtin; go_must (refine wpList_moreE rfl _ _ _ rfl B 38 34 56 Tryz.underlying22 info54 a (N k) (C k) (flatC (mkAc k) (N k)) rfl HX.out.1.row ⟨M, 0, none⟩ 64 64 (flatC (mkAc (k + K)) 64) rfl (flatC_length (mkAc_size _) 64) HX.out.2 (flatC_one (mkAc_one _) 64) (by decide) (by have := HNK.out; unfold maxLen; omega) (by have := HNK.out; omega) HSZ.out ?_)
                           intro g' c' w7 hr7 hch
                           have hgr := HX.out.1.grow HS.out mkAc_size HLT.out (mkAc_size (k + K)) hr7 hch
                           have hkl := HLT.out
                           have cS := hgr.1.cellAt HLT.out
                           have fS := hgr.1.free k
                           have hst := hgr.1.store HS.out HSF.out.1 HSF.out.2 HLT.out hgr.2.1 hgr.2.2.1 hgr.2.2.2.1 hgr.2.2.2.2 (d := c')
                           have H9 := Lib.hid hst
                           clear hgr hst hr7 hch hkl))
                      refine ⟨⟨k + 1, by have := HLT.out; omega, by go_num, _, _, H9.out⟩, ?_⟩
                      have := HLT.out
                      simp [intOf]; omega
                · as_aux_lemma =>
                  obtain rfl : k = K := by omega
                  have m1 : decide ((k : Int) < (k : Int)) = false := by simp
                  have m1n : ¬ k < k := by omega
                  have HQ := Lib.hid hp
                  obtain ⟨W6, hW6⟩ : ∃ W6, W6 = wr := ⟨_, rfl⟩
                  have hb6 : Below W6.heap.size W6 wr := by rw [hW6]; exact Below.refl _ _
                  rw [← hW6] at HQ
                  have HB6 := Lib.hid hb6
                  clear hlt hk hp hW6 hb6
                  go_upto_region 35 with fail
                  clear m1 m1n
                  obtain ⟨K, hKe⟩ : ∃ K, K = k := ⟨_, rfl⟩
                  subst hKe
                  go_wp2_with fail
                  go_loopw [14] (fun i W => ∃ k : Nat, k ≤ K ∧ i = .int .i64 k ∧ Below W6.heap.size W6 W) (fun i _ => K - (intOf i).toNat)
                  case atStart => exact ⟨0, by omega, rfl, HB6.out⟩
                  case round =>
                    clear HB6
                    obtain ⟨k, hk, rfl, hb⟩ := hrel
                    by_cases hlt : k < K
                    · as_aux_lemma =>
                      have m1 : (k : Int) < (K : Int) := by omega
                      have m1n : k < K := hlt
                      have m0 : (0 : Int) ≤ (k : Int) := by omega
                      have rn : (N k : Int) ≤ 100000 := by have := HK.out.2 k hlt; omega
                      have HLT := Lib.hid hlt
                      clear hlt hk
                      have HB := Lib.hid hb
                      clear hb
                      go_wp2_with fail
                      go_loopw [15] (fun i W => ∃ j : Nat, j ≤ N k ∧ i = .int .i64 j ∧ Below W6.heap.size W6 W) (fun i _ => N k - (intOf i).toNat)
                      case atStart => exact ⟨0, by omega, rfl, HB.out⟩
                      case round =>
                        clear HB
                        obtain ⟨j, hj, rfl, hb⟩ := hrel
                        have hp := HQ.out.calls HS.out hb
                        have cS := hp.cell k HLT.out
                        have cL := hp.bs.cell HS.out k HLT.out
                        by_cases hlt : j < N k
                        · as_aux_lemma =>
                          have hon := HS.out.pos HLT.out hlt
                          have hA := (HS.out.on HLT.out hon).1
                          rw [hA] at cL
                          have m2 : (j : Int) < (N k : Int) := by omega
                          have m2n : j < N k := hlt
                          obtain ⟨M, hM⟩ : ∃ M, M = N k + 64 := ⟨_, rfl⟩
                          rw [← hM] at cS
                          have m4 : (j : Int) < (M : Int) := by omega
                          have m4n : j < M := by omega
                          have m3 : (0 : Int) ≤ (j : Int) := by omega
                          have h1 := (hp.got k HLT.out).1 j hlt
                          have hlt1 := (hp.got k HLT.out).2.1
                          have hmk := fun W => mkAc_any W k j (by have := HLT.out; have := HK.out.1; omega) (by have := HK.out.2 k HLT.out; omega)
                          have heq : ∀ X, X = mkAc k j → (∀ W, (Op.equalIn 10000 38 (.agg X) (.agg X)).run Tryz.prog W = .ok true W) := fun X hX => by rw [hX]; exact mkAc_eq k j
                          have hsz : (mkAc k j).size = 34 := mkAc_size k j
                          have rS := fun d os => cell_regrown cS d os
                          have rL := fun d os => cell_regrown cL d os
                          have h2 := hp.has k HLT.out j hlt
                          have hlt2 := (hp.bs.blk k HLT.out hon).lt
                          generalize hXe : mkAc k j = X at h1 h2 hmk hsz
                          have HX := Lib.hid (And.intro (And.intro h1 hlt1) (And.intro (heq X hXe.symm) (And.intro (And.intro h2 hlt2) (show (Tryz.prog.info? 38).map (·.size) = some X.size by rw [hsz]; exact infoSA))))
                          have HMK := Lib.hid hmk
                          have HB := Lib.hid (And.intro hb hlt)
                          clear h1 h2 hmk hb hp hlt hj heq hsz hlt1 hlt2 hon hA hXe hM
                          go_upto_region 41 with fail
                          refine wp_region_quiet_below (by kernel_rfl) (by kernel_rfl) ?_
                          iterate 6 (first | go_big_quiet_step (fail) | quiet_step (fail))
                          refine wpQuiet_loadE (by rfl) 38 _ rfl (G k) (j * 34) rfl X _ HX.out.2.2.1.1 HX.out.2.2.1.2 Tryz.underlying38 rfl HX.out.2.2.2 ?_
                          iterate 2 (first | go_big_quiet_step (fail) | quiet_step (fail))
                          quiet_step ((go_at_call 65; with_reducible exact Calls.regrown_of (HMK.out _)))
                          refine wpQuiet_sameA (by rfl) _ _ rfl X HX.out.2.1 rfl rfl ?_
                          iterate 8 (first | go_big_quiet_step (fail) | quiet_step (fail))
                          refine wpQuiet_loadE (by rfl) 38 _ rfl (H' k) (j * 34) rfl X _ HX.out.1.1 HX.out.1.2 Tryz.underlying38 rfl HX.out.2.2.2 ?_
                          iterate 2 (first | go_big_quiet_step (fail) | quiet_step (fail))
                          quiet_step ((go_at_call 65; with_reducible exact Calls.regrown_of (HMK.out _)))
                          refine wpQuiet_sameA (by rfl) _ _ rfl X HX.out.2.1 rfl rfl ?_
                          iterate 2 (first | go_big_quiet_step (fail) | quiet_step (fail))
                          refine wpQuiet_nil ?_
                          rintro w5 ⟨p, hw5⟩
                          have HB5 : Hid (Below W6.heap.size W6 w5) := Lib.hid (by rw [hw5]; exact HB.out.1.trans ((below_regrown wr p.d p.os).mono HB.out.1.size))
                          clear hw5 HX
                          go_wp2_with fail
                          refine ⟨⟨j + 1, by have := HB.out.2; omega, by go_num, HB5.out⟩, ?_⟩
                          have := HB.out.2
                          simp [intOf]; omega
                        · obtain rfl : j = N k := by omega
                          have m2 : decide ((N k : Int) < (N k : Int)) = false := by simp
                          have m2n : ¬ N k < N k := by omega
                          have HB := Lib.hid hb
                          clear hb hp hlt hj
                          go_wp2_with fail
                          refine ⟨⟨k + 1, by have := HLT.out; omega, by go_num, HB.out⟩, ?_⟩
                          have := HLT.out
                          simp [intOf]; omega
                    · as_aux_lemma =>
                      obtain rfl : k = K := by omega
                      have m1 : decide ((k : Int) < (k : Int)) = false := by simp
                      have m1n : ¬ k < k := by omega
                      have HE := Lib.hid (HQ.out.calls HS.out hb).bs
                      clear hlt hk hb
                      go_wp2_with fail
                      go_ret
                      exact ⟨rfl, HE.out⟩
end Go.Proofs.YtjngghihciimjaaGreat
