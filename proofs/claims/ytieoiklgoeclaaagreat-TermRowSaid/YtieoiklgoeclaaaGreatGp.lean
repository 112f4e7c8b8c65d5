/-
  TermRow's walk (3).
-/
import Derived.Test.YtieoiklgoeclaaaGreatGo
import Derived.Deep.CutBlock
namespace Go.Proofs.YtieoiklgoeclaaaGreat
open Go.RowKit

theorem someD_len (i : Nat) (hi : i < 27) : 0 < (someL.getD i []).length ∧ (someL.getD i []).length ≤ 5 := some_len ⟨i, hi⟩
set_option maxRecDepth 1000000 in
set_option maxHeartbeats 60000000 in
theorem row_any (w : World) : Calls Tryz.prog 3 #[] w fun e w' => e = .returned (.bool true) ∧ Below w.heap.size w w' := by
  go_enter Tryz.func3, Tryz.ntmps3
  go_wp2_with fail
  refine (some_any w).mono ?_
  rintro e w1 ⟨g, l, rfl, hlk, hts, hb1⟩
  have HL := Lib.hid (And.intro (RowG.mk hts hlk) hb1)
  clear hts hlk hb1
  go_upto_region 3 with fail
  go_loopw [2] (fun v W => ∃ i : Nat, i ≤ 27 ∧ v = .int .i64 i ∧ Below w1.heap.size w1 W) (fun v _ => (27 - intOf v).toNat)
  case atStart => exact ⟨0, by omega, by go_num, Below.refl _ _⟩
  case round =>
    obtain ⟨i, hi, rfl, hbr⟩ := hrel
    have q0 : (0 : Int) ≤ (i : Int) := by omega
    by_cases hlt : i < 27
    · have q1 : (i : Int) < 27 := by omega
      have HB := Lib.hid hbr
      clear hbr
      go_upto_region 6 with fail
      obtain ⟨wi, hwi⟩ : ∃ W, W = wr := ⟨_, rfl⟩
      go_loopw [3] (fun v W => ∃ k : Nat, k ≤ 27 ∧ v = .int .i64 k ∧ Below w1.heap.size w1 W) (fun v _ => (27 - intOf v).toNat)
      case atStart => exact ⟨0, by omega, by go_num, HB.out⟩
      case round =>
        obtain ⟨k, hk, rfl, hbr2⟩ := hrel
        have q2 : (0 : Int) ≤ (k : Int) := by omega
        by_cases hlt2 : k < 27
        · have q3 : (k : Int) < 27 := by omega
          have HB2 := Lib.hid hbr2
          clear hbr2
          go_upto_if 23 with (fail)
          go_cut [4, 23, 24, 25, 26] from 211 (fun v _ _ _ _ W => v = .int .i64 (wantI i k) ∧ W = wr)
          case first =>
            by_cases h1 : i < k
            · have h2 : (i : Int) < (k : Int) := by omega
              go_wp2_with fail
              go_meet
              case rel => exact ⟨by unfold wantI; rw [if_pos h1], rfl⟩
            · have h2 : ¬ (i : Int) < (k : Int) := by omega
              by_cases h3 : k < i
              · have h4 : (k : Int) < (i : Int) := by omega
                go_wp2_with fail
                go_meet
                case rel => exact ⟨by unfold wantI; rw [if_neg h1, if_pos h3], rfl⟩
              · have h4 : ¬ (k : Int) < (i : Int) := by omega
                go_wp2_with fail
                go_meet
                case rel => exact ⟨by unfold wantI; rw [if_neg h1, if_neg h3], rfl⟩
          case rest =>
            obtain ⟨rfl, rfl⟩ := hcut
            rename World => W0
            have hR0 := HL.out.1.below HB2.out
            obtain ⟨ai, ni, ci, x0, ti, hni⟩ := hR0.at_ i hlt
            obtain ⟨ak, nk, ck, y0, tk, hnk⟩ := hR0.at_ k hlt2
            have li := someD_len i hlt
            have lk := someD_len k hlt2
            have hord : ordT (someL.getD i []) (someL.getD k []) = wantI i k := some_ord ⟨i, hlt⟩ ⟨k, hlt2⟩
            obtain ⟨z, hz⟩ : ∃ z, z = wantI i k := ⟨_, rfl⟩
            rw [← hz] at hord ⊢
            obtain ⟨xs, hxs⟩ : ∃ x, x = someL.getD i [] := ⟨_, rfl⟩
            obtain ⟨ys, hys⟩ : ∃ x, x = someL.getD k [] := ⟨_, rfl⟩
            rw [← hxs] at ti hni li hord
            rw [← hys] at tk hnk lk hord
            obtain ⟨n1, n2, hpk⟩ := pair_facts W0 ai ak ni nk ci ck xs ys z ti tk hni hnk (by omega) (by omega) hord
            have hS : ∀ V, Below W0.heap.size W0 V → V.cell? ⟨g, i, none⟩ = some (.slice ai ni ci) ∧ V.cell? ⟨g, k, none⟩ = some (.slice ak nk ck) := fun V hV => by
              obtain ⟨gg, off, e, hg, -⟩ := hR0.ts.row (by rw [hR0.len]; omega)
              cases e
              exact ⟨(hV.cell (p := ⟨g, i, none⟩) hg).trans x0, (hV.cell (p := ⟨g, k, none⟩) hg).trans y0⟩
            have HS := Lib.hid (And.intro hS hpk)
            have hB0 : Below W0.heap.size W0 W0 := Below.refl _ _
            have d0 : Below W0.heap.size W0 W0.drew := hB0.drew
            have x1 : ((z != z) : Bool) = false := by simp
            clear hS hpk hxs hys hz hord li lk ti tk hni hnk hR0
            go_upto_region 13 with fail
            go_cut [89] from 211 (fun v W => v = .bool false ∧ Below W0.heap.size W0 W)
            case first =>
              as_aux_lemma =>
                go_region_held3 (fun V => V.cell? ⟨g, i, none⟩ = some (.slice ai ni ci) ∧ V.cell? ⟨g, k, none⟩ = some (.slice ak nk ck)) (first | go_keep | exact HS.out.1 _ (by assumption) | exact HS.out.1 _ (HS.out.2.2.2.2.2.2.2.2.2 _ _ (by assumption)) | exact HS.out.1 _ (HS.out.2.2.2.2.2.2.2.2.2 _ _ (HS.out.2.2.2.2.2.2.2.2.2 _ _ (by assumption))))
                  (first
                    | (with_reducible refine (HS.out.2.1 _ (by assumption)).mono ?_; rintro e u1 ⟨rfl, hu1⟩)
                    | (with_reducible refine (HS.out.2.2.1 _ (by assumption)).mono ?_; rintro e u2 ⟨rfl, hu2⟩)
                    | (with_reducible refine (HS.out.2.2.2.1 _ (by assumption)).mono ?_; rintro e u3 ⟨a3, c3, rfl, hx3, hu3⟩)
                    | (with_reducible refine (HS.out.2.2.2.2.1 _ (by assumption)).mono ?_; rintro e u3 ⟨a3, c3, rfl, hx3, hl3, hu3⟩)
                    | (with_reducible refine (HS.out.2.2.2.2.2.1 _ (by assumption)).mono ?_; rintro e u3 ⟨a3, c3, rfl, hx3, hl3, hu3⟩)
                    | (with_reducible refine (HS.out.2.2.2.2.2.2.1 _ _ _ (by assumption) (by assumption)).mono ?_; rintro e u4 ⟨a4, c4, rfl, hx4, hu4⟩)
                    | (with_reducible refine (HS.out.2.2.2.2.2.2.2.1 _ _ _ _ (by assumption) (by assumption) (by assumption)).mono ?_; rintro e u4 ⟨a4, c4, rfl, hx4, hu4⟩)
                    | (with_reducible refine (HS.out.2.2.2.2.2.2.2.2.1 _ _ _ _ _ (by assumption) (by assumption)).mono ?_; rintro e u5 ⟨rfl, hu5⟩))
                all_goals
                  have U5 := Lib.hid hu5
                  clear hu1 hu2 hu3 hu4 hu5
                  go_wp2_with fail
                  go_meet
                  case rel => exact ⟨by simp, U5.out⟩
            case rest =>
              obtain ⟨rfl, hb8⟩ := hcut
              rename World => v8
              have V8 := Lib.hid (HB2.out.trans (hb8.mono HB2.out.size))
              clear hb8 x0 y0 hB0 d0 x1
              go_wp2_with fail
              exact ⟨⟨k + 1, by omega, by go_num, V8.out⟩, by simp [intOf]; omega⟩
        · skip
          as_aux_lemma =>
            have q3 : ¬ (k : Int) < 27 := by omega
            have hR0 := HL.out.1.below hbr2
            obtain ⟨ai, ni, ci, x0, ti, hni⟩ := hR0.at_ i hlt
            have hr8 : rightB (someL.getD i []) = true := some_right ⟨i, hlt⟩
            have k8 : Calls Tryz.prog 8 #[.agg #[.slice ai ni ci]] wr fun e w' => e = .returned (.bool true) ∧ Below wr.heap.size wr w' := by
              have := rightG wr ⟨ai, ci, someL.getD i []⟩ ni hni ti
              simp only [hr8] at this
              exact this
            have HK := Lib.hid (And.intro k8 hbr2)
            clear k8 hbr2 hR0 ti hni hr8
            go_wp2_with fail
            refine HK.out.1.mono ?_
            rintro e w2 ⟨rfl, hb2⟩
            have HB2 := Lib.hid (HK.out.2.trans (hb2.mono HK.out.2.size))
            clear hb2 x0
            go_upto_region 18 with fail
            go_loopw [5] (fun v W => ∃ p : Nat, p ≤ 48 ∧ v = .int .i64 p ∧ Below w1.heap.size w1 W) (fun v _ => (48 - intOf v).toNat)
            case atStart => exact ⟨0, by omega, by go_num, HB2.out⟩
            case round =>
              obtain ⟨p, hp, rfl, hbr3⟩ := hrel
              have q4 : (0 : Int) ≤ (p : Int) := by omega
              by_cases hlt3 : p < 48
              · skip
                have q5 : (p : Int) < 48 := by omega
                have hR0 := HL.out.1.below hbr3
                obtain ⟨ai, ni, ci, x0, ti, hni⟩ := hR0.at_ i hlt
                have li := someD_len i hlt
                have k9 := copyT_any wr ai ci ni _ hni ti.tat ti.nil0
                have HR := Lib.hid (And.intro k9 (And.intro hbr3 (And.intro ti (And.intro hni li))))
                clear k9 hbr3 ti hni hR0 li
                go_wp2_with fail
                refine HR.out.1.mono ?_
                rintro e w3 ⟨a3, n3, c3, rfl, ho3, hb3⟩
                obtain ⟨g3, rfl, hn3, hc3, ho3'⟩ : ∃ g3, a3 = some ⟨g3, 0, none⟩ ∧ n3 = (someL.getD i []).length ∧ n3 ≤ c3 ∧ wr.heap.size ≤ g3 := by
                  rcases ho3.form with ⟨h1, h2⟩ | ⟨gg, cap, h1, h2, h3, h4, h5, -⟩
                  · have := HR.out.2.2.2.2.1; rw [h2] at this; simp at this
                  · cases h1; exact ⟨gg, rfl, rfl, h3, h2⟩
                have HN3 := Lib.hid hn3
                clear hn3
                go_upto_region 21 with fail
                have hL4 := Lies.new w3 #[.slice (some ⟨g3, 0, none⟩) n3 c3] 27
                have hb4 : Below w3.heap.size w3 (w3.alloc (.cells #[.slice (some ⟨g3, 0, none⟩) n3 c3] 27)) := (Below.refl _ _).alloc (Nat.le_refl _) _
                generalize w3.alloc (.cells #[.slice (some ⟨g3, 0, none⟩) n3 c3] 27) = W4 at hL4 hb4 ⊢
                obtain ⟨bx, hbx⟩ : ∃ b, b = w3.heap.size := ⟨_, rfl⟩
                rw [← hbx] at hL4 ⊢
                have hb14 := hb3.trans (hb4.mono hb3.size)
                have ho4 := ho3.kept hb4
                have c4 := hL4.cell 0 (v := .slice (some ⟨g3, 0, none⟩) n3 c3) rfl
                obtain ⟨m, hm⟩ : ∃ m, m = p % n3 := ⟨_, rfl⟩
                have hn3 := HN3.out
                have hn0 : 0 < n3 := by have := HR.out.2.2.2.2.1; omega
                have hmn : m < n3 := by rw [hm]; exact Nat.mod_lt _ hn0
                have hn5 : n3 ≤ 5 := by have := HR.out.2.2.2.2.2; omega
                have e1 : (p : Int).tmod (n3 : Int) = (m : Int) := by rw [Int.tmod_eq_emod_of_nonneg q4, hm]; omega
                have e2 : (p : Int) % (n3 : Int) = (m : Int) := by rw [hm]; omega
                have e3 : IntKind.i64.wrap (m : Int) = (m : Int) := by rw [IntKind.wrap_i64]; omega
                have e4 : ¬ (n3 : Int) = 0 := by omega
                have e5 : (0 : Int) ≤ (m : Int) := by omega
                have e6 : (m : Int) < (n3 : Int) := by omega
                have e7 : ¬ n3 = 0 := by omega
                have HBW := Lib.hid (show wr.heap.size ≤ bx by rw [hbx]; exact hb3.size)
                have H4 := Lib.hid (And.intro ho4 (And.intro hb14 (And.intro hL4 (And.intro hn3 (And.intro hc3 (And.intro ho3' (And.intro hbx (And.intro hmn hn5))))))))
                clear ho3 hb3 ho4 hb14 hL4 hb4 hn3 hc3 ho3' hbx x0 hm hn0 hmn hn5
                go_quiet (fail)
                clear e1 e2 e3 e4 e5 e6 e7
                have h7 : p % 7 = 0 ∨ p % 7 = 1 ∨ p % 7 = 2 ∨ p % 7 = 3 ∨ p % 7 = 4 ∨ p % 7 = 5 ∨ p % 7 = 6 := by omega
                obtain ⟨W5, hW5⟩ : ∃ W, W = W4.drewN nq := ⟨_, rfl⟩
                rw [← hW5]
                have hb45 : Below W4.heap.size W4 W5 := by rw [hW5]; exact below_drewN (Below.refl _ _) _
                have hL5 := H4.out.2.2.1.below hb45 H4.out.2.2.1.lt
                have ho5 := H4.out.1.kept hb45
                have hb15 := H4.out.2.1.trans (hb45.mono H4.out.2.1.size)
                obtain ⟨cur, hcur⟩ : ∃ cur, Lies W5 g3 cur 36 := by
                  rcases ho5.2 with ⟨h1, -⟩ | ⟨gg, cap, cur, h1, -, h3, -⟩
                  · cases h1
                  · cases h1; exact ⟨cur, h3⟩
                have hxl : 0 < (someL.getD i []).length := HR.out.2.2.2.2.1
                have htg := tgO ho5 (by have := HR.out.2.2.2.2.2; omega) HR.out.2.2.1.tat.2.2 HR.out.2.2.1.words HR.out.2.2.1.txt
                have hsm := some_small ⟨i, hlt⟩
                obtain ⟨xs, hxs⟩ : ∃ x, x = someL.getD i [] := ⟨_, rfl⟩
                simp only [← hxs] at htg hxl hsm
                have hmx : m < xs.length := by rw [hxs, ← HN3.out]; exact H4.out.2.2.2.2.2.2.2.1
                obtain ⟨gg, oo, ee, hN⟩ := htg.1.tat.1 hxl
                cases ee
                have hcs := hN.2 m hmx
                have hsx := of_decide_eq_true (List.all_eq_true.1 hsm _ (List.getElem_mem hmx))
                have hwx := htg.1.words _ (List.getElem_mem hmx)
                obtain ⟨x, ex⟩ : ∃ x, x = xs[m] := ⟨_, rfl⟩
                rw [← ex] at hcs hsx hwx
                obtain ⟨kk, nn, bb, tt, dd⟩ := x
                have y0 : W5.cell? ⟨g3, m * 5, none⟩ = some (.int .i64 kk) := by have := hcs 0 _ rfl; rwa [show 0 + m * 5 + 0 = m * 5 by omega] at this
                have y1 : W5.cell? ⟨g3, m * 5 + 1, none⟩ = some (.int .i64 nn) := by have := hcs 1 _ rfl; rwa [show 0 + m * 5 + 1 = m * 5 + 1 by omega] at this
                have y2 : W5.cell? ⟨g3, m * 5 + 2, none⟩ = some (.int .u64 bb) := by have := hcs 2 _ rfl; rwa [show 0 + m * 5 + 2 = m * 5 + 2 by omega] at this
                have y3 : W5.cell? ⟨g3, m * 5 + 3, none⟩ = some (.string tt) := by have := hcs 3 _ rfl; rwa [show 0 + m * 5 + 3 = m * 5 + 3 by omega] at this
                have y4 : W5.cell? ⟨g3, m * 5 + 4, none⟩ = some (.int .i64 dd) := by have := hcs 4 _ rfl; rwa [show 0 + m * 5 + 4 = m * 5 + 4 by omega] at this
                have f0 := fun j => hcur.free j
                have z4 := hL5.cell 0 (v := .slice (some ⟨g3, 0, none⟩) n3 c3) rfl
                have zf := hL5.free 0
                simp only at hsx hwx
                have d1 := hsx.1
                have d2 := hsx.2.1
                have d3 := hsx.2.2
                have hne : g3 ≠ bx := fun e => by
                  subst e
                  have h1 := hL5.cell 0 (v := .slice (some ⟨g3, 0, none⟩) n3 c3) rfl
                  have h2 := hN.2 0 hxl 0 (.int .i64 xs[0].kind) rfl
                  rw [show 0 + 0 * 5 + 0 = 0 by omega, h1] at h2
                  cases h2
                have HX := Lib.hid (And.intro htg.1 (And.intro hN (And.intro hmx (And.intro ex (And.intro hL5 (And.intro hb15 (And.intro hne (And.intro hwx (And.intro ho5 (And.intro htg.2 (And.intro hcur hxl)))))))))))
                clear htg hN ex hL5 hb15 hne hwx ho5 hcur hxl hsx hsm hxs hcs hb45 hW5 c4
                go_upto_block 6 with fail
                go_cut [7] from 113 to 182 (fun _ W => ∃ a6 n6 c6 ys, Lies W bx #[.slice a6 n6 c6] 27 ∧ TG W ⟨a6, c6, ys⟩ ∧ n6 = ys.length ∧ Below wr.heap.size wr W)
                case first =>
                  rcases h7 with h7 | h7 | h7 | h7 | h7 | h7 | h7
                  · skip
                    as_aux_lemma =>
                      have hr : (p : Int) % 7 = 0 := by omega
                      clear h7
                      have f1 := f0 (m * 5)
                      go_wp2_with fail
                      go_meet
                      case rel => exact ⟨some ⟨g3, 0, none⟩, n3, c3, _, HX.out.2.2.2.2.1.other _ _ (Ne.symm HX.out.2.2.2.2.2.2.1), tg_kind HX.out.1 HX.out.2.1 HX.out.2.2.1 HX.out.2.2.2.1 (by omega) HX.out.2.2.2.2.2.2.2.1 (by omega) _, by rw [List.length_set]; exact HX.out.2.2.2.2.2.2.2.2.2.1, HX.out.2.2.2.2.2.1.setCell H4.out.2.2.2.2.2.1 _⟩
                  · skip
                    as_aux_lemma =>
                      have hr : (p : Int) % 7 = 1 := by omega
                      clear h7
                      have f1 := f0 (m * 5 + 1)
                      go_wp2_with fail
                      go_meet
                      case rel => exact ⟨some ⟨g3, 0, none⟩, n3, c3, _, HX.out.2.2.2.2.1.other _ _ (Ne.symm HX.out.2.2.2.2.2.2.1), tg_num HX.out.1 HX.out.2.1 HX.out.2.2.1 HX.out.2.2.2.1 (by omega) HX.out.2.2.2.2.2.2.2.1 (by omega) _, by rw [List.length_set]; exact HX.out.2.2.2.2.2.2.2.2.2.1, HX.out.2.2.2.2.2.1.setCell H4.out.2.2.2.2.2.1 _⟩
                  · skip
                    as_aux_lemma =>
                      have hr : (p : Int) % 7 = 2 := by omega
                      clear h7
                      have f1 := f0 (m * 5 + 2)
                      rcases (by omega : (p : Int) % 2 = 0 ∨ (p : Int) % 2 = 1) with hr2 | hr2
                      · go_wp2_with fail
                        go_meet
                        case rel =>
                          obtain ⟨nb, hnb, eb⟩ := bits_u64 .xor (bb : Int) 9221120237041090561
                          rw [eb]
                          exact ⟨some ⟨g3, 0, none⟩, n3, c3, _, HX.out.2.2.2.2.1.other _ _ (Ne.symm HX.out.2.2.2.2.2.2.1), tg_bits HX.out.1 HX.out.2.1 HX.out.2.2.1 HX.out.2.2.2.1 (by omega) (by omega) _ hnb, by rw [List.length_set]; exact HX.out.2.2.2.2.2.2.2.2.2.1, HX.out.2.2.2.2.2.1.setCell H4.out.2.2.2.2.2.1 _⟩
                      · go_wp2_with fail
                        go_meet
                        case rel =>
                          obtain ⟨nb, hnb, eb⟩ := bits_u64 .xor (bb : Int) 18442240474082181122
                          rw [eb]
                          exact ⟨some ⟨g3, 0, none⟩, n3, c3, _, HX.out.2.2.2.2.1.other _ _ (Ne.symm HX.out.2.2.2.2.2.2.1), tg_bits HX.out.1 HX.out.2.1 HX.out.2.2.1 HX.out.2.2.2.1 (by omega) (by omega) _ hnb, by rw [List.length_set]; exact HX.out.2.2.2.2.2.2.2.2.2.1, HX.out.2.2.2.2.2.1.setCell H4.out.2.2.2.2.2.1 _⟩
                  · skip
                    as_aux_lemma =>
                      have hr : (p : Int) % 7 = 3 := by omega
                      clear h7
                      have f1 := f0 (m * 5 + 3)
                      go_wp2_with fail
                      go_meet
                      case rel =>
                        exact ⟨some ⟨g3, 0, none⟩, n3, c3, _, HX.out.2.2.2.2.1.other _ _ (Ne.symm HX.out.2.2.2.2.2.2.1), tg_text HX.out.1 HX.out.2.1 HX.out.2.2.1 HX.out.2.2.2.1 (by omega) HX.out.2.2.2.2.2.2.2.1 _ (by rw [ByteArray.size_append]; have e : (⟨#[120]⟩ : ByteArray).size = 1 := rfl; omega), by rw [List.length_set]; exact HX.out.2.2.2.2.2.2.2.2.2.1, HX.out.2.2.2.2.2.1.setCell H4.out.2.2.2.2.2.1 _⟩
                  · skip
                    as_aux_lemma =>
                      have hr : (p : Int) % 7 = 4 := by omega
                      clear h7
                      have f1 := f0 (m * 5 + 4)
                      obtain ⟨j, hj⟩ : ∃ j : Nat, (p : Int) % 3 = (j : Int) := ⟨p % 3, by omega⟩
                      have hj2 : (j : Int) ≤ 2 := by omega
                      have hj0 : (0 : Int) ≤ (j : Int) := by omega
                      go_wp2_with fail
                      go_meet
                      case rel =>
                        exact ⟨some ⟨g3, 0, none⟩, n3, c3, _, HX.out.2.2.2.2.1.other _ _ (Ne.symm HX.out.2.2.2.2.2.2.1), tg_kids HX.out.1 HX.out.2.1 HX.out.2.2.1 HX.out.2.2.2.1 HX.out.2.2.2.2.2.2.2.1 (by omega) _ (by omega), by rw [List.length_set]; exact HX.out.2.2.2.2.2.2.2.2.2.1, HX.out.2.2.2.2.2.1.setCell H4.out.2.2.2.2.2.1 _⟩
                  · skip
                    as_aux_lemma =>
                      have hr : (p : Int) % 7 = 5 := by omega
                      clear h7
                      have hnp : 1 ≤ n3 := by have := HX.out.2.2.2.2.2.2.2.2.2.1; have := HX.out.2.2.2.2.2.2.2.2.2.2.2; omega
                      have hcp : n3 ≤ c3 := H4.out.2.2.2.2.1
                      have hsl := fun W => slice_one W g3 n3 c3 hnp hcp
                      obtain ⟨a5, ha5⟩ : ∃ a5, a5 = tailA g3 c3 := ⟨_, rfl⟩
                      simp only [← ha5] at hsl
                      have HA5 := Lib.hid ha5
                      clear ha5 hnp hcp
                      go_wp2_with fail
                      go_meet
                      case rel =>
                        have hk := tg_cut (tg_other (b := bx) (j := 0) HX.out.1 HX.out.2.1 (Ne.symm HX.out.2.2.2.2.2.2.1) (.slice a5 (n3 - 1) (c3 - 1))) (nat_other HX.out.2.1 (Ne.symm HX.out.2.2.2.2.2.2.1) _) HX.out.2.2.2.2.2.2.2.2.2.1 HX.out.2.2.2.2.2.2.2.2.2.2.2
                        rw [← HA5.out] at hk
                        exact ⟨a5, n3 - 1, c3 - 1, _, HX.out.2.2.2.2.1.set 0 _, hk.1, hk.2, HX.out.2.2.2.2.2.1.setCell HBW.out _⟩
                  · skip
                    as_aux_lemma =>
                      have hr : (p : Int) % 7 = 6 := by omega
                      clear h7
                      have hbA : Below W5.heap.size W5 (W5.alloc (.cells #[.int .i64 1, .int .i64 0, .int .u64 0, .string ⟨#[]⟩, .int .i64 0] 36)) := (Below.refl _ _).alloc (Nat.le_refl _) _
                      have hLA := Lies.new W5 #[.int .i64 1, .int .i64 0, .int .u64 0, .string ⟨#[]⟩, .int .i64 0] 36
                      have hoA := HX.out.2.2.2.2.2.2.2.2.1.kept hbA
                      have hb1A := HX.out.2.2.2.2.2.1.trans (hbA.mono HX.out.2.2.2.2.2.1.size)
                      have HAA := Lib.hid (And.intro hoA (And.intro (src_node (n := ⟨1, 0, 0, ⟨#[]⟩, 0⟩) hLA) (And.intro hb1A (HX.out.2.2.2.2.1.below hbA HX.out.2.2.2.2.1.lt))))
                      clear hbA hLA hoA hb1A
                      go_wp2_with (at_builtin; go_must (refine wpList_append_T rfl _ _ rfl wr.heap.size _ _ _ [⟨1, 0, 0, ⟨#[]⟩, 0⟩] rfl HAA.out.1 rfl HAA.out.2.1 (by have h := HR.out.2.2.2.2.2; show (someL.getD i []).length + 1 ≤ 1000000; omega) HAA.out.2.2.1.size ?_; intro v' w7 hown7 hgrow7 hat7; have hbx7 := grown_lies hgrow7 HAA.out.2.2.2 (HAA.out.1.far HAA.out.2.2.2); have zf7 := hbx7.free 0; have zc7 := hbx7.cell 0 (v := .slice (some ⟨g3, 0, none⟩) n3 c3) rfl; have hb17 := HAA.out.2.2.1.grown hgrow7 HAA.out.2.2.1.size (fun k e => HAA.out.1.above e); obtain ⟨k7, n7, c7, rfl⟩ := hown7.isSlice; have H7 := Lib.hid (And.intro hown7 (And.intro hbx7 hb17)); clear hown7 hbx7 hb17 hgrow7 hat7))
                      go_meet
                      case rel =>
                        have hs7 := H7.out.1.setCell ⟨bx, 0, none⟩ (.slice k7 n7 c7) (Ne.symm (H7.out.1.far H7.out.2.1))
                        have hk := tgO hs7 (by have h := HR.out.2.2.2.2.2; rw [List.length_append]; show (someL.getD i []).length + 1 ≤ 1000000; omega) (fun x hx => by rcases List.mem_append.1 hx with h | h; exact HR.out.2.2.1.tat.2.2 x h; rw [List.mem_singleton.1 h]; simp) (fun x hx => by rcases List.mem_append.1 hx with h | h; exact HR.out.2.2.1.words x h; rw [List.mem_singleton.1 h]; exact (by decide : (0 : Nat) < 2 ^ 64)) (fun x hx => by rcases List.mem_append.1 hx with h | h; exact HR.out.2.2.1.txt x h; rw [List.mem_singleton.1 h]; exact Nat.zero_le _)
                        exact ⟨k7, n7, c7, _, H7.out.2.1.set 0 _, hk.1, hk.2, H7.out.2.2.setCell HBW.out _⟩
                case rest =>
                  as_aux_lemma =>
                    obtain ⟨a6, n6, c6, ys, hbx6, ht6, hn6, hb6⟩ := hcut
                    rename World => W6
                    have hb16 := HR.out.2.1.trans (hb6.mono HR.out.2.1.size)
                    have hR6 := HL.out.1.below hb16
                    obtain ⟨j, hj⟩ : ∃ j, j = (i + p) % 27 := ⟨_, rfl⟩
                    have hj27 : j < 27 := by rw [hj]; exact Nat.mod_lt _ (by omega)
                    obtain ⟨ai', ni', ci', x0, ti', hni'⟩ := hR6.at_ i hlt
                    obtain ⟨aj, nj, cj, x1, tj, hnj⟩ := hR6.at_ j hj27
                    have up : ∀ (V : World) (v : Value), Below W6.heap.size W6 V → ∀ e w', (e = Ending.returned v ∧ Below V.heap.size V w') → (e = Ending.returned v ∧ Below V.heap.size V w') := fun _ _ _ _ _ k => k
                    have t6a : ∀ V, Below W6.heap.size W6 V → Calls Tryz.prog 6 #[.agg #[.slice a6 n6 c6], .agg #[.slice ai' ni' ci']] V fun e w' => e = .returned (.bool true) ∧ Below V.heap.size V w' := fun V hV => tellsG V ⟨a6, c6, ys⟩ ⟨ai', ci', _⟩ n6 ni' hn6 hni' (ht6.below hV) (ti'.below hV)
                    have t6b : ∀ V, Below W6.heap.size W6 V → Calls Tryz.prog 6 #[.agg #[.slice aj nj cj], .agg #[.slice a6 n6 c6]] V fun e w' => e = .returned (.bool true) ∧ Below V.heap.size V w' := fun V hV => tellsG V ⟨aj, cj, _⟩ ⟨a6, c6, ys⟩ nj n6 hnj hn6 (tj.below hV) (ht6.below hV)
                    have y6 := hbx6.cell 0 (v := .slice a6 n6 c6) rfl
                    have e1 : IntKind.i64.wrap ((i : Int) + (p : Int)) = (i : Int) + (p : Int) := by rw [IntKind.wrap_i64]; omega
                    have e2 : ((i : Int) + (p : Int)).tmod 27 = (j : Int) := by rw [Int.tmod_eq_emod_of_nonneg (by omega), hj]; omega
                    have e5 : (0 : Int) ≤ (j : Int) := by omega
                    have e6 : (j : Int) < 27 := by omega
                    have HT := Lib.hid (And.intro t6a (And.intro t6b hb16))
                    clear t6a t6b hb16 hR6 hj hj27 ti' tj hni' hnj hbx6 ht6 hn6 hb6 up h7
                    have fin : ∀ w9, (∃ p : Regrown, w9 = Sort.grow (redrawn W6 p.d) p.os) → Below w1.heap.size w1 w9 := fun w9 ⟨p, hp⟩ => by rw [hp]; exact HT.out.2.2.trans ((below_regrown _ _ _).mono HT.out.2.2.size)
                    have FIN := Lib.hid fin
                    clear fin y0 y1 y2 y3 y4 f0 z4 zf d1 d2 d3
                    have r0 := fun d os => cell_regrown x0 d os
                    have r1 := fun d os => cell_regrown x1 d os
                    have r2 := fun d os => cell_regrown y6 d os
                    go_upto_region 36 with fail
                    refine wp_region_quiet_below (by kernel_rfl) (by kernel_rfl) ?_
                    iterate 21 (first | go_big_quiet_step (first | (go_at_call 6; first | with_reducible exact Calls.regrown_of (HT.out.1 _ (below_regrown _ _ _)) | with_reducible exact Calls.regrown_of (HT.out.2.1 _ (below_regrown _ _ _)))) | quiet_step (first | (go_at_call 6; first | with_reducible exact Calls.regrown_of (HT.out.1 _ (below_regrown _ _ _)) | with_reducible exact Calls.regrown_of (HT.out.2.1 _ (below_regrown _ _ _)))))
                    refine wpQuiet_nil ?_
                    intro w9 hw9
                    have F9 := Lib.hid (FIN.out w9 hw9)
                    clear hw9 e1 e2 e5 e6 r0 r1 r2 x0 x1 y6
                    go_wp2_with fail
                    exact ⟨⟨p + 1, by omega, by go_num, F9.out⟩, by simp [intOf]; omega⟩
              · have q5 : ¬ (p : Int) < 48 := by omega
                have HF := Lib.hid hbr3
                clear hbr3
                go_wp2_with fail
                exact ⟨⟨i + 1, by omega, by go_num, HF.out⟩, by simp [intOf]; omega⟩
    · skip
      as_aux_lemma =>
        have q1 : ¬ (i : Int) < 27 := by omega
        have HF := Lib.hid (HL.out.2.trans (hbr.mono HL.out.2.size))
        clear hbr
        go_wp2_with fail
        refine (shapes_any wr).mono ?_
        rintro e w2 ⟨rfl, hb2⟩
        have HF2 := Lib.hid (HF.out.trans (hb2.mono HF.out.size))
        clear hb2
        go_wp2_with fail
        refine (ends2_any w2).mono ?_
        rintro e w3 ⟨rfl, hb3⟩
        have HF3 := Lib.hid (HF2.out.trans (hb3.mono HF2.out.size))
        clear hb3
        go_wp2_with fail
        refine (awakeT_any w3).mono ?_
        rintro e w4 ⟨rfl, hb4⟩
        have HF4 := Lib.hid (HF3.out.trans (hb4.mono HF3.out.size))
        clear hb4
        go_wp2_with fail
        go_ret
        exact ⟨rfl, HF4.out⟩
end Go.Proofs.YtieoiklgoeclaaaGreat
