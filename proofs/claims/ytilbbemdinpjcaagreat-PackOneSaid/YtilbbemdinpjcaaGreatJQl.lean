/-
  pack: the putter's entries.
-/
import Derived.Test.YtilbbemdinpjcaaGreatJPe
import Derived.Test.YtilbbemdinpjcaaGreatJPi
import Derived.Test.YtilbbemdinpjcaaGreatJPz
import Derived.Test.YtilbbemdinpjcaaGreatJPk
set_option maxHeartbeats 16000000
namespace Go.Proofs.YtilbbemdinpjcaaGreat.P
set_option maxRecDepth 100000
open Go.RowKit Go.Sort
def apartR : List En → List En → Bool
 | [], _ => true
 | _ :: _, [] => true
 | a :: l, b :: k => if lessR a.r b.r then apartR l (b :: k) else if lessR b.r a.r then apartR (a :: l) k else false
termination_by s m => s.length + m.length
def lenOf : Value → Nat
 | .slice _ n _ => n
 | _ => 0
theorem RowE.tail {w : World} {g off : Nat} {e : En} {es : List En} (h : RowE w (some ⟨g, off, none⟩) (e :: es)) : RowE w (some ⟨g, off + 102, none⟩) es := by
 refine ⟨by have := h.1; simp only [List.length_cons] at this; omega, fun _ => ?_⟩
 obtain ⟨g', off', e1, hg, hh⟩ := h.2 (by simp)
 have e2 : (⟨g, off, none⟩ : Addr) = ⟨g', off', none⟩ := Option.some.inj e1
 cases e2
 refine ⟨g, off + 102, rfl, hg, fun i x hi => ?_⟩
 have := hh (i + 1) x (by simpa using hi)
 rw [show off + (i + 1) * 102 = off + 102 + i * 102 by omega] at this
 exact this
def zRf : Array Value := Array.replicate 32 (.int .u8 0) ++ #[.int .i64 0]
theorem alloc_ref (w : World) : (Instr.alloc 37 true (.tuple #[])).run Tryz.prog w = .ok (.pointer (some ⟨w.heap.size, 0, none⟩)) (w.alloc (.cells zRf 37)) := by kernel_rfl
theorem apart_any (w : World) (pa pb : Option Addr) (es ms : List En) (ca cb : Nat) (ha : RowE w pa es) (hb : RowE w pb ms) (hca : es.length ≤ ca) (hcb : ms.length ≤ cb) :
    Calls Tryz.prog 72 #[.slice pa es.length ca, .slice pb ms.length cb] w fun e w' => e = .returned (.bool (apartR es ms)) ∧ Below w.heap.size w w' := by
  obtain ⟨res, hres⟩ : ∃ r, r = apartR es ms := ⟨_, rfl⟩
  rw [← hres]
  have H := Lib.hid (And.intro ha (And.intro hb (And.intro hca (And.intro hcb hres))))
  have hal := alloc_ref
  clear ha hb hca hcb hres
  go_enter Tryz.func72, Tryz.ntmps72
  go_upto_region 1 with fail
  go_loopw [0, 1] (fun a b V => ∃ (pa pb : Option Addr) (es ms : List En) (ca cb : Nat), a = .slice pa es.length ca ∧ b = .slice pb ms.length cb ∧ RowE V pa es ∧ RowE V pb ms ∧ es.length ≤ ca ∧ ms.length ≤ cb ∧ res = apartR es ms ∧ Below w.heap.size w V) (fun a b _ => lenOf a + lenOf b)
  case atStart => exact ⟨pa, pb, es, ms, ca, cb, rfl, rfl, H.out.1, H.out.2.1, H.out.2.2.1, H.out.2.2.2.1, H.out.2.2.2.2, Below.refl _ _⟩
  case round =>
    obtain ⟨qa, qb, xs, ys, da, db, rfl, rfl, hxa, hyb, hda, hdb, hr, hbw⟩ := hrel
    cases xs with
    | nil =>
      have HB := Lib.hid (And.intro hbw (show res = true by rw [hr]; cases ys <;> simp [apartR]))
      clear hbw hr hxa hyb
      simp only [List.length_nil]
      go_wp2_with fail
      go_ret
      exact ⟨by rw [HB.out.2]; rfl, HB.out.1⟩
    | cons x xs =>
      cases ys with
      | nil =>
        have HB := Lib.hid (And.intro hbw (show res = true by rw [hr]; simp [apartR]))
        have m1 : (0 : Int) < ((x :: xs).length : Int) := by simp only [List.length_cons]; omega
        clear hbw hr hxa hyb
        obtain ⟨n, hn⟩ : ∃ n, n = (x :: xs).length := ⟨_, rfl⟩
        rw [← hn] at m1 ⊢
        clear hn
        simp only [List.length_nil]
        go_wp2_with fail
        go_ret
        exact ⟨by rw [HB.out.2]; rfl, HB.out.1⟩
      | cons y ys =>
        obtain ⟨gx, ox, rfl, hgx, hhx⟩ := hxa.2 (by simp)
        obtain ⟨gy, oy, rfl, hgy, hhy⟩ := hyb.2 (by simp)
        have hX := hhx 0 x rfl
        have hY := hhy 0 y rfl
        rw [Nat.zero_mul, Nat.add_zero] at hX hY
        obtain ⟨n, hn⟩ : ∃ n, n = (x :: xs).length := ⟨_, rfl⟩
        obtain ⟨m, hm⟩ : ∃ m, m = (y :: ys).length := ⟨_, rfl⟩
        obtain ⟨av, hav⟩ : ∃ v, v = refC x.r := ⟨_, rfl⟩
        obtain ⟨bv, hbv⟩ : ∃ v, v = refC y.r := ⟨_, rfl⟩
        have m1 : (0 : Int) < (n : Int) := by rw [hn]; simp only [List.length_cons]; omega
        have m2 : (0 : Int) < (m : Int) := by rw [hm]; simp only [List.length_cons]; omega
        have n1 : n ≠ 0 := by omega
        have n2 : m ≠ 0 := by omega
        have HI := Lib.hid (And.intro (show (Tryz.prog.info? 37).map (·.size) = some av.size by rw [hav, refC_size _ hX.2.r.1]; exact info_ref) (show (Tryz.prog.info? 37).map (·.size) = some bv.size by rw [hbv, refC_size _ hY.2.r.1]; exact info_ref))
        have HS : Hid (∀ V, Below wr.heap.size wr V → V.rangeAt gx ox av.toList ∧ V.rangeAt gy oy bv.toList) := Lib.hid fun V hV => ⟨fun j v hj => (hV.cell (p := ⟨gx, ox + j, none⟩) hgx).trans (hX.1 j v (enC_ref hX.2 j v (by rw [← hav]; exact hj))), fun j v hj => (hV.cell (p := ⟨gy, oy + j, none⟩) hgy).trans (hY.1 j v (enC_ref hY.2 j v (by rw [← hbv]; exact hj)))⟩
        rw [← hn, ← hm]
        go_upto_region 2 with fail
        refine wp_region_held (S := Below wr.heap.size wr) (by kernel_rfl) ?_
        change wpAnyH _ _ _ _ _ 12 _ _ (World.drew wr)
        have hcur : Below wr.heap.size wr wr.drew := (Below.refl _ _).drew
        refine tk 0 (.slice (some ⟨gx, ox, none⟩) n da) 15 rfl rfl hcur ?_
        refine tk 1 (.pointer (some ⟨gx, ox, none⟩)) 16 rfl rfl hcur ?_ (by intro w' hS'; unfold execOp; simp [go_sem, n1])
        refine tk 2 (.pointer (some ⟨gx, ox, none⟩)) 17 rfl rfl hcur ?_
        refine tk 3 (.agg av) 18 rfl rfl hcur ?_ (by intro w' hS'; exact exec_loadM 37 (.tmp 17) rfl gx ox rfl av ((HS.out w' hS').1) Tryz.underlying37 rfl HI.out.1)
        refine tk 4 (.slice (some ⟨gy, oy, none⟩) m db) 19 rfl rfl hcur ?_
        refine tk 5 (.pointer (some ⟨gy, oy, none⟩)) 20 rfl rfl hcur ?_ (by intro w' hS'; unfold execOp; simp [go_sem, n2])
        refine tk 6 (.pointer (some ⟨gy, oy, none⟩)) 21 rfl rfl hcur ?_
        refine tk 7 (.agg bv) 22 rfl rfl hcur ?_ (by intro w' hS'; exact exec_loadM 37 (.tmp 21) rfl gy oy rfl bv ((HS.out w' hS').2) Tryz.underlying37 rfl HI.out.2)
        generalize wr.drew = V0 at hcur ⊢
        have hone1 : av.all (·.oneCell') = true := by rw [hav]; exact refC_one _
        have hone2 : bv.all (·.oneCell') = true := by rw [hbv]; exact refC_one _
        have hz1 : zRf.size = av.size := by rw [hav, refC_size _ hX.2.r.1]; rfl
        have hz2 : zRf.size = bv.size := by rw [hbv, refC_size _ hY.2.r.1]; rfl
        have HZ := Lib.hid (And.intro hone1 (And.intro hone2 (And.intro hz1 hz2)))
        have HP := Lib.hid (And.intro hxa (And.intro hyb (And.intro hda (And.intro hdb (And.intro hr (And.intro hbw (And.intro hX (And.intro hY (And.intro hn (And.intro hm (And.intro hav hbv)))))))))))
        clear hxa hyb hda hdb hr hbw hX hY hn hm hav hbv hgx hgy hhx hhy hone1 hone2 hz1 hz2
        refine (show (∀ (bx by_ : Nat) (V : World), Lies V bx av 37 → Lies V by_ bv 37 → Below wr.heap.size wr V → (?X : Nat → Nat → World → Prop) bx by_ V) → _ from fun hcont => ?arms) ?cont
        case arms =>
          refine wpAnyH_all (rs := [8, 9]) (by kernel_rfl) (by simp) ?_
          intro jj hjj
          have hjj' : jj = 8 ∨ jj = 9 := by simpa using hjj
          clear hjj
          rcases hjj' with rfl | rfl
          case inl =>
            obtain ⟨bx, hbx⟩ : ∃ b, b = V0.heap.size := ⟨_, rfl⟩
            have hlbx := Lies.new V0 zRf 37
            have hqbx : wr.heap.size ≤ bx := by rw [hbx]; exact hcur.size
            have hc1 := hcur.alloc hcur.size (.cells zRf 37)
            refine (wpOp_valG (v := .pointer (some ⟨V0.heap.size, 0, none⟩)) (w' := V0.alloc (.cells zRf 37)) rfl (by rfl) 5 rfl (by unfold execOp; simp [go_sem]; rfl) ?_)
            rw [← hbx] at hlbx ⊢
            clear hbx
            generalize V0.alloc (.cells zRf 37) = V1 at hlbx hc1 ⊢
            refine ⟨hc1, ?_⟩
            simp only [Act.put, List.setIfInBounds_toArray, List.set_cons_zero, List.set_cons_succ]
            obtain ⟨by_, hby_⟩ : ∃ b, b = V1.heap.size := ⟨_, rfl⟩
            have hlby_ := Lies.new V1 zRf 37
            have hqby_ : wr.heap.size ≤ by_ := by rw [hby_]; exact hc1.size
            have hc2 := hc1.alloc hc1.size (.cells zRf 37)
            have hne : bx ≠ by_ := by have := hlbx.lt; omega
            have hlbx := hlbx.alloc (.cells zRf 37)
            refine held_one (i := 9) (by kernel_rfl) _ rfl (wpOp_valG (v := .pointer (some ⟨V1.heap.size, 0, none⟩)) (w' := V1.alloc (.cells zRf 37)) rfl (by rfl) 6 rfl (by unfold execOp; simp [go_sem]; rfl) ?_)
            rw [← hby_] at hlby_ ⊢
            clear hby_
            generalize V1.alloc (.cells zRf 37) = V2 at hlby_ hc2 hlbx ⊢
            refine ⟨hc2, ?_⟩
            simp only [Act.put, List.setIfInBounds_toArray, List.set_cons_zero, List.set_cons_succ]
            refine held_one (i := 10) (by kernel_rfl) _ rfl (wpOp_storeRow rfl rfl rfl 37 (.tmp 5) (.tmp 18) rfl bx av rfl rfl 37 zRf hlbx HI.out.1 HZ.out.2.2.1 HZ.out.1 ?_)
            have hc3 := below_setRow hc2 bx av hqbx
            have hlbx := hlbx.setRow av
            have hlby_ := hlby_.setRowOther bx av (Ne.symm hne)
            generalize V2.setRow bx av = V3 at hlbx hc3 hlby_ ⊢
            refine ⟨hc3, ?_⟩
            refine held_one (i := 11) (by kernel_rfl) _ rfl (wpOp_storeRow rfl rfl rfl 37 (.tmp 6) (.tmp 22) rfl by_ bv rfl rfl 37 zRf hlby_ HI.out.2 HZ.out.2.2.2 HZ.out.2.1 ?_)
            have hc4 := below_setRow hc3 by_ bv hqby_
            have hlby_ := hlby_.setRow bv
            have hlbx := hlbx.setRowOther by_ bv hne
            generalize V3.setRow by_ bv = V4 at hlby_ hc4 hlbx ⊢
            refine ⟨hc4, ?_⟩
            refine held_done (by kernel_rfl) ?_
            exact hcont bx by_ V4 hlbx hlby_ hc4
          case inr =>
            obtain ⟨by_, hby_⟩ : ∃ b, b = V0.heap.size := ⟨_, rfl⟩
            have hlby_ := Lies.new V0 zRf 37
            have hqby_ : wr.heap.size ≤ by_ := by rw [hby_]; exact hcur.size
            have hc1 := hcur.alloc hcur.size (.cells zRf 37)
            refine (wpOp_valG (v := .pointer (some ⟨V0.heap.size, 0, none⟩)) (w' := V0.alloc (.cells zRf 37)) rfl (by rfl) 6 rfl (by unfold execOp; simp [go_sem]; rfl) ?_)
            rw [← hby_] at hlby_ ⊢
            clear hby_
            generalize V0.alloc (.cells zRf 37) = V1 at hlby_ hc1 ⊢
            refine ⟨hc1, ?_⟩
            simp only [Act.put, List.setIfInBounds_toArray, List.set_cons_zero, List.set_cons_succ]
            obtain ⟨bx, hbx⟩ : ∃ b, b = V1.heap.size := ⟨_, rfl⟩
            have hlbx := Lies.new V1 zRf 37
            have hqbx : wr.heap.size ≤ bx := by rw [hbx]; exact hc1.size
            have hc2 := hc1.alloc hc1.size (.cells zRf 37)
            have hne : by_ ≠ bx := by have := hlby_.lt; omega
            have hlby_ := hlby_.alloc (.cells zRf 37)
            refine held_one (i := 8) (by kernel_rfl) _ rfl (wpOp_valG (v := .pointer (some ⟨V1.heap.size, 0, none⟩)) (w' := V1.alloc (.cells zRf 37)) rfl (by rfl) 5 rfl (by unfold execOp; simp [go_sem]; rfl) ?_)
            rw [← hbx] at hlbx ⊢
            clear hbx
            generalize V1.alloc (.cells zRf 37) = V2 at hlbx hc2 hlby_ ⊢
            refine ⟨hc2, ?_⟩
            simp only [Act.put, List.setIfInBounds_toArray, List.set_cons_zero, List.set_cons_succ]
            refine held_one (i := 10) (by kernel_rfl) _ rfl (wpOp_storeRow rfl rfl rfl 37 (.tmp 5) (.tmp 18) rfl bx av rfl rfl 37 zRf hlbx HI.out.1 HZ.out.2.2.1 HZ.out.1 ?_)
            have hc3 := below_setRow hc2 bx av hqbx
            have hlbx := hlbx.setRow av
            have hlby_ := hlby_.setRowOther bx av hne
            generalize V2.setRow bx av = V3 at hlbx hc3 hlby_ ⊢
            refine ⟨hc3, ?_⟩
            refine held_one (i := 11) (by kernel_rfl) _ rfl (wpOp_storeRow rfl rfl rfl 37 (.tmp 6) (.tmp 22) rfl by_ bv rfl rfl 37 zRf hlby_ HI.out.2 HZ.out.2.2.2 HZ.out.2.1 ?_)
            have hc4 := below_setRow hc3 by_ bv hqby_
            have hlby_ := hlby_.setRow bv
            have hlbx := hlbx.setRowOther by_ bv (Ne.symm hne)
            generalize V3.setRow by_ bv = V4 at hlby_ hc4 hlbx ⊢
            refine ⟨hc4, ?_⟩
            refine held_done (by kernel_rfl) ?_
            exact hcont bx by_ V4 hlbx hlby_ hc4
        case cont =>
          intro bx by_ V hlx hly hbV
          obtain ⟨ab, hab⟩ : ∃ z, z = lessR x.r y.r := ⟨_, rfl⟩
          obtain ⟨ba, hba⟩ : ∃ z, z = lessR y.r x.r := ⟨_, rfl⟩
          have KL : Hid (∀ U, Calls Tryz.prog 21 #[.agg av, .agg bv] U (fun e w' => e = .returned (.bool ab) ∧ Below U.heap.size U w') ∧ Calls Tryz.prog 21 #[.agg bv, .agg av] U (fun e w' => e = .returned (.bool ba) ∧ Below U.heap.size U w')) := Lib.hid fun U => by
            rw [HP.out.2.2.2.2.2.2.2.2.2.2.1, HP.out.2.2.2.2.2.2.2.2.2.2.2, hab, hba]
            exact ⟨less_any U x.r y.r HP.out.2.2.2.2.2.2.1.2.r.1 HP.out.2.2.2.2.2.2.2.1.2.r.1, less_any U y.r x.r HP.out.2.2.2.2.2.2.2.1.2.r.1 HP.out.2.2.2.2.2.2.1.2.r.1⟩
          have hbw := HP.out.2.2.2.2.2.1.trans (hbV.mono HP.out.2.2.2.2.2.1.size)
          have HV := Lib.hid (And.intro hlx (And.intro hly (And.intro hbw (And.intro hbV (And.intro hab hba)))))
          clear hlx hly hbw hbV hab hba
          go_wp2_with (first
            | (refine wpList_load_row rfl 37 _ rfl bx rfl 37 av (0, 0) _ HV.out.1 Tryz.underlying37 rfl HI.out.1 ?_)
            | (refine wpList_load_row rfl 37 _ rfl by_ rfl 37 bv (0, 0) _ HV.out.2.1 Tryz.underlying37 rfl HI.out.2 ?_))
          refine (KL.out _).1.mono ?_
          rintro e U1 ⟨rfl, hb1⟩
          have H1 := Lib.hid hb1
          clear hb1
          cases ab with
          | true =>
            go_wp2_with fail
            have hbU := HV.out.2.2.2.1.trans (H1.out.mono HV.out.2.2.2.1.size)
            have hxU := HP.out.1.below hbU (Nat.le_refl _)
            have hyU := HP.out.2.1.below hbU (Nat.le_refl _)
            have hnn := HP.out.2.2.2.2.2.2.2.2.1
            have hmm := HP.out.2.2.2.2.2.2.2.2.2.1
            have h3 := HP.out.2.2.1
            rw [List.length_cons] at hnn h3
            refine ⟨⟨(if da = 1 then some ⟨gx, ox, none⟩ else some ⟨gx, ox + 102, none⟩), some ⟨gy, oy, none⟩, xs, y :: ys, da - 1, db, ?_, ?_, ?_, hyU, by omega, HP.out.2.2.2.1, ?_, HV.out.2.2.1.trans (H1.out.mono HV.out.2.2.1.size)⟩, ?_⟩
            · rw [show n - 1 = xs.length by omega]
            · rw [hmm]
            · by_cases h1 : da = 1
              · rw [if_pos h1]
                have hx0 : xs = [] := List.eq_nil_of_length_eq_zero (by omega)
                rw [hx0]
                exact ⟨Nat.zero_le _, fun h => absurd h (by simp)⟩
              · rw [if_neg h1]
                exact hxU.tail
            · rw [HP.out.2.2.2.2.1, apartR, if_pos HV.out.2.2.2.2.1.symm]
            · simp only [lenOf]
              omega
          | false =>
            go_wp2_with (first
              | (refine wpList_load_row rfl 37 _ rfl bx rfl 37 av (0, 0) _ (HV.out.1.below H1.out HV.out.1.lt) Tryz.underlying37 rfl HI.out.1 ?_)
              | (refine wpList_load_row rfl 37 _ rfl by_ rfl 37 bv (0, 0) _ (HV.out.2.1.below H1.out HV.out.2.1.lt) Tryz.underlying37 rfl HI.out.2 ?_))
            refine (KL.out _).2.mono ?_
            rintro e U2 ⟨rfl, hb2⟩
            have H2 := Lib.hid (H1.out.trans (hb2.mono H1.out.size))
            clear hb2
            cases ba with
            | true =>
              go_wp2_with fail
              have hbU := HV.out.2.2.2.1.trans (H2.out.mono HV.out.2.2.2.1.size)
              have hxU := HP.out.1.below hbU (Nat.le_refl _)
              have hyU := HP.out.2.1.below hbU (Nat.le_refl _)
              have hnn := HP.out.2.2.2.2.2.2.2.2.1
              have hmm := HP.out.2.2.2.2.2.2.2.2.2.1
              have h3 := HP.out.2.2.2.1
              rw [List.length_cons] at hmm h3
              refine ⟨⟨some ⟨gx, ox, none⟩, (if db = 1 then some ⟨gy, oy, none⟩ else some ⟨gy, oy + 102, none⟩), x :: xs, ys, da, db - 1, ?_, ?_, hxU, ?_, HP.out.2.2.1, by omega, ?_, HV.out.2.2.1.trans (H2.out.mono HV.out.2.2.1.size)⟩, ?_⟩
              · rw [hnn]
              · rw [show m - 1 = ys.length by omega]
              · by_cases h1 : db = 1
                · rw [if_pos h1]
                  have hx0 : ys = [] := List.eq_nil_of_length_eq_zero (by omega)
                  rw [hx0]
                  exact ⟨Nat.zero_le _, fun h => absurd h (by simp)⟩
                · rw [if_neg h1]
                  exact hyU.tail
              · rw [HP.out.2.2.2.2.1, apartR, if_neg (by rw [← HV.out.2.2.2.2.1]; simp), if_pos HV.out.2.2.2.2.2.symm]
              · simp only [lenOf]
                omega
            | false =>
              have hz : res = false := by
                rw [HP.out.2.2.2.2.1, apartR, if_neg (by rw [← HV.out.2.2.2.2.1]; simp), if_neg (by rw [← HV.out.2.2.2.2.2]; simp)]
              have HR := Lib.hid hz
              clear hz
              go_wp2_with fail
              go_ret
              exact ⟨by rw [HR.out]; rfl, HV.out.2.2.1.trans (H2.out.mono HV.out.2.2.1.size)⟩
end Go.Proofs.YtilbbemdinpjcaaGreat.P
namespace Go.Proofs.YtilbbemdinpjcaaGreat.P
set_option maxRecDepth 100000
open Go.RowKit
theorem cntE_le {es : List En} {k : Nat} : cntE (es.take k) ≤ cntE es := by
 unfold cntE
 conv => rhs; rw [← List.take_append_drop k es, List.map_append, List.sum_append]
 rw [List.map_take]
 have : (es.map fun e => 1 + cntO e.o).take k = (es.take k).map fun e => 1 + cntO e.o := by rw [List.map_take]
 rw [this]
 omega
theorem putterEntries_any (w : World) {B g : Nat} {v : Value} {st : Option (List UInt8)} (pa : Option Addr) (nc : Nat) (es : List En) (hT : Stays g w v fun W => RowE W pa es) (hk : ∀ e ∈ es, e.o.kind = 2 → ∀ x ∈ e.o.ns, 1 ≤ x.kind ∧ x.kind ≤ 6) (hi : ∀ e ∈ es, ∀ x ∈ e.o.ns, NdIn x) (h : WrO W.WSt w B g v st) (hx : sz st + 123 * cntE es ≤ 690000) :
  Calls Tryz.prog 190 #[.agg #[.pointer (some ⟨g, 0, none⟩)], .slice pa es.length nc] w (PutR W.WSt w B g v (ensS st es)) := by
 have hn : (es.length : Int) ≤ 9223372036854775807 := by have := hT.now.1; unfold maxLen at this; omega
 have hok : ∀ e ∈ es, EnH e := fun e he => by
  obtain ⟨i, hi2⟩ := List.getElem?_of_mem he
  obtain ⟨gx, off, _, _, hh⟩ := hT.now.2 (by have := (List.getElem?_eq_some_iff.1 hi2).1; omega)
  have h1 := (hh i e hi2).2
  exact ⟨h1.r.1, h1.o.ah, h1.o.dh, fun a ha => (h1.o.v.2.2.2.1 a ha).1⟩
 have hal := alloc_entry
 obtain ⟨hA, hb0⟩ := box_one w (.pointer (some ⟨g, 0, none⟩)) 170
 have hpo := h.off (w' := w.alloc (.cells #[.pointer (some ⟨g, 0, none⟩)] 170)) (Nat.le_refl _) (by simp)
 have H := Lib.hid (And.intro hT (And.intro hok (And.intro h (And.intro hx (And.intro hk hi)))))
 clear hT hok h hx hk hi
 go_enter Tryz.func190, Tryz.ntmps190
 go_upto_region 1 with fail
 generalize w.alloc (.cells #[.pointer (some ⟨g, 0, none⟩)] 170) = W0 at hA hb0 hpo ⊢
 obtain ⟨p, hpe⟩ : ∃ p, p = w.heap.size := ⟨_, rfl⟩
 rw [← hpe] at hA hpo ⊢
 have c0 := hA.cell 0 (v := .pointer (some ⟨g, 0, none⟩)) rfl
 have HC := Lib.hid (wU32 W0 es.length (H.out.2.2.1.belowW hb0) (by have := H.out.2.2.2.1; omega))
 have HA := Lib.hid (And.intro hA (And.intro hpo hb0))
 clear hA hpo hb0 hpe
 go_wp2_with fail
 refine HC.out.mono ?_
 rintro e W1 ⟨rfl, u1, hw1, hk1⟩
 have hp1 : ∀ W u, Lk g W1 u1 W u → W.cell? ⟨p, 0, none⟩ = some (.pointer (some ⟨g, 0, none⟩)) := fun W u hl => by
  have ho := HA.out.2.1.on hk1
  rw [hl.cell (o := 0) ho.lt ho.ne ho.own, hk1.cell (o := 0) HA.out.2.1.lt HA.out.2.1.ne HA.out.2.1.own]
  exact HA.out.1.cell 0 rfl
 have HW := Lib.hid (And.intro hw1 (And.intro ((Lk.of_below HA.out.2.2).trans hk1) hp1))
 clear hw1 hk1 hp1 c0 HC
 go_wp2_with fail
 go_loopw [13] (fun i Z => ∃ (k : Nat) (u : Value), k ≤ es.length ∧ i = .int .i64 k ∧ WrO W.WSt Z B g u ((es.take k).foldl enS (W.stepN st (W.low64 es.length) 4)) ∧ Lk g W1 u1 Z u) (fun i _ => (es.length - intOf i).toNat)
 case atStart => exact ⟨0, u1, by omega, by go_num, HW.out.1, Lk.refl _ _ _⟩
 case round =>
  obtain ⟨k, u, hk, rfl, hwr, hlk⟩ := hrel
  by_cases hlt : k < es.length
  ·
   have hfull : Lk g w v wr u := HW.out.2.1.trans hlk
   obtain ⟨gx, off, rfl, hgl, hat⟩ := (H.out.1 _ _ hfull).2 (by omega)
   obtain ⟨e, hke⟩ : ∃ e, es[k]? = some e := ⟨es[k], List.getElem?_eq_getElem hlt⟩
   have hmem := List.mem_of_getElem? hke
   have hnh := H.out.2.1 e hmem
   have hra := (hat k e hke).1
   have hok := (hat k e hke).2
   have hso : Stays g W1 u1 fun V => OtOk V e.o := fun V u' hl => by
    obtain ⟨gy, offy, _, _, hh⟩ := (H.out.1 _ _ (HW.out.2.1.trans hl)).2 (by omega)
    exact (hh k e hke).2.o
   obtain ⟨s0, hs0⟩ : ∃ s, s = (es.take k).foldl enS (W.stepN st (W.low64 es.length) 4) := ⟨_, rfl⟩
   have hst : (es.take (k + 1)).foldl enS (W.stepN st (W.low64 es.length) 4) = enS s0 e := by rw [hs0]; exact foldl_take _ _ _ _ _ hke
   have hsz0 : sz s0 + 123 * (1 + cntO e.o) ≤ 690010 := by
    have h1 := sz_enF (es.take k) (W.stepN st (W.low64 es.length) 4) (fun x hx => H.out.2.1 x (List.mem_of_mem_take hx))
    have h2 := cntE_le (es := es) (k := k + 1)
    rw [cntE_take hke] at h2
    have h3 := H.out.2.2.2.1
    have h4 := sz_N st (W.low64 es.length) 4
    rw [← hs0] at h1
    omega
   rw [← hs0] at hwr
   obtain ⟨ev, hev⟩ : ∃ x, x = enC e := ⟨_, rfl⟩
   have hes : ev.size = 102 := by rw [hev]; exact enC_size hok
   have hL := Lies.new wr ev 81
   have hbA : Below wr.heap.size wr (wr.alloc (.cells ev 81)) := (Below.refl _ _).alloc (Nat.le_refl _) _
   have hqq := hwr.off (w' := wr.alloc (.cells ev 81)) (Nat.le_refl _) (by simp)
   have q0 : (0 : Int) ≤ (k : Int) := by omega
   have q1 : (k : Int) < (es.length : Int) := by omega
   have HE := Lib.hid (And.intro (show wr.rangeAt gx (off + k * 102) ev.toList by rw [hev]; exact hra) (And.intro (show (Tryz.prog.info? 81).map (·.size) = some ev.toList.length by rw [Array.length_toList, hes]; exact info_entry) (And.intro (show (Tryz.prog.info? 81).map (·.size) = some ev.size by rw [hes]; exact info_entry) (And.intro hes (show ev.all (·.oneCell') = true by rw [hev]; exact enC_one e)))))
   have HR := Lib.hid (And.intro hwr (And.intro hlk (And.intro hst (And.intro hsz0 (And.intro hnh (And.intro hev (And.intro hok (And.intro hso hmem))))))))
   clear hs0 hwr hlk hst hsz0 hnh hev hra hat hfull hgl hok hso hes hmem
   go_upto_region 5 with (first
    | (refine wpList_load_mid rfl 81 _ rfl gx (off + k * 102) rfl ev.toList _ HE.out.1 Tryz.underlying81 rfl HE.out.2.1 ?_)
    | (refine wpList_store_row rfl 81 _ _ rfl wr.heap.size ev rfl rfl 81 zEn (Lies.new wr zEn 81) HE.out.2.2.1 (by rw [HE.out.2.2.2.1]; kernel_rfl) HE.out.2.2.2.2 ?_))
   rw [World.setRow_alloc_new]
   generalize wr.alloc (.cells ev 81) = W5 at hL hbA hqq ⊢
   obtain ⟨q, hq⟩ : ∃ q, q = wr.heap.size := ⟨_, rfl⟩
   rw [← hq] at hL hqq ⊢
   clear hq
   have hl5 : Lk g W1 u1 W5 u := HR.out.2.1.below hbA
   have cp := HW.out.2.2 W5 u hl5
   obtain ⟨rv, hrv⟩ : ∃ x, x = refC e.r := ⟨_, rfl⟩
   obtain ⟨ov, hov⟩ : ∃ x, x = otC e.o := ⟨_, rfl⟩
   have HI2 := Lib.hid (And.intro (show (Tryz.prog.info? 37).map (·.size) = some rv.toList.length by rw [Array.length_toList, hrv, refC_size _ HR.out.2.2.2.2.1.tx]; exact info_ref) (show (Tryz.prog.info? 35).map (·.size) = some ov.toList.length by rw [Array.length_toList, hov, otC_size _ HR.out.2.2.2.2.1.ah HR.out.2.2.2.2.1.dh]; exact info_output))
   have HRG : Hid (∀ V, Lies V q ev 81 → V.rangeAt q 0 rv.toList ∧ V.rangeAt q 33 ov.toList) := Lib.hid fun V hl => by
    rw [HR.out.2.2.2.2.2.1] at hl
    refine ⟨fun j x hj => ?_, fun j x hj => ?_⟩
    ·
     rw [Nat.zero_add]
     exact hl.cell j (by rw [← Array.getElem?_toList]; exact enC_ref HR.out.2.2.2.2.2.2.1 j x (by rw [← hrv]; exact hj))
    ·
     exact hl.cell (33 + j) (by rw [← Array.getElem?_toList]; exact enC_out HR.out.2.2.2.2.2.2.1 j x (by rw [← hov]; exact hj))
   have hC1 := putterRef_any W5 e.r HR.out.2.2.2.2.1.tx (HR.out.1.belowW hbA) (by have := HR.out.2.2.2.1; omega)
   rw [← hrv] at hC1
   have HC1 := Lib.hid hC1
   have HQ := Lib.hid (And.intro hl5 (And.intro hqq (And.intro hL hov)))
   have HP := Lib.hid (HRG.out W5 hL)
   clear hl5 hqq hL hbA hC1 hrv hov
   go_wp2_with (first
    | (at_builtin; fail)
    | (refine wpList_load_mid rfl 37 _ rfl q 0 rfl rv.toList _ HP.out.1 Tryz.underlying37 rfl HI2.out.1 ?_))
   refine HC1.out.mono ?_
   rintro x W6 ⟨rfl, u6, hw6, hk6⟩
   have hl6 := HQ.out.1.trans hk6
   have cp := HW.out.2.2 W6 u6 hl6
   have hL6 := hk6.lies HQ.out.2.2.1 HQ.out.2.1.ne HQ.out.2.1.own
   have hs1 := sz_ref s0 e.r HR.out.2.2.2.2.1.tx
   have hC2 := putterOutput_any W6 e.o (HR.out.2.2.2.2.2.2.2.1.on hl6) (H.out.2.2.2.2.1 e HR.out.2.2.2.2.2.2.2.2) (H.out.2.2.2.2.2 e HR.out.2.2.2.2.2.2.2.2) hw6 (by have := HR.out.2.2.2.1; omega)
   rw [← HQ.out.2.2.2] at hC2
   have HC2 := Lib.hid hC2
   have HP6 := Lib.hid (HRG.out W6 hL6)
   have HQ6 := Lib.hid hl6
   clear hl6 hL6 hk6 hw6 hs1 HC1 hC2
   go_wp2_with (first
    | (at_builtin; fail)
    | (refine wpList_load_mid rfl 35 _ rfl q 33 rfl ov.toList _ HP6.out.2 Tryz.underlying35 rfl HI2.out.2 ?_))
   refine HC2.out.mono ?_
   rintro x W8 ⟨rfl, u8, hw8, hk8⟩
   have HN := Lib.hid (And.intro hw8 (HQ6.out.trans hk8))
   clear hw8 hk8 cp HC2
   go_wp2_with fail
   go_roundw
   case rel => exact ⟨k + 1, u8, by omega, by go_num, by rw [HR.out.2.2.1]; exact HN.out.1, HN.out.2⟩
   case measure => simp [intOf]; omega
  ·
   have hke : k = es.length := by omega
   have HN := Lib.hid (And.intro hwr hlk)
   clear hwr hlk
   go_wp2_with fail
   go_end0
   have hw := HN.out.1
   rw [hke, List.take_of_length_le (Nat.le_refl _)] at hw
   exact PutR.end_ hw (HW.out.2.1.trans HN.out.2)
end Go.Proofs.YtilbbemdinpjcaaGreat.P
