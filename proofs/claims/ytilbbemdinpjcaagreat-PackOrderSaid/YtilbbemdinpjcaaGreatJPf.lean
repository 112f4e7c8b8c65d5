/-
  pack: RightOutput.
-/
import Derived.Test.YtilbbemdinpjcaaGreatJPd
import Derived.Test.YtilbbemdinpjcaaGreatJVr
import Derived.Test.YtilbbemdinpjcaaGreatJVp
import Derived.Deep.WholeRow
namespace Go.Proofs.YtilbbemdinpjcaaGreat.P
set_option maxRecDepth 100000
open Go.RowKit Go.Sort
attribute [-go_sem] Instr.build

theorem built_zeroH : Tryz.prog.built 30 [] = some (B8 zeroH) := by kernel_rfl
set_option maxHeartbeats 8000000 in
theorem mustHave_any (w : World) (o : Ot) (h : OtOk w o) :
    Calls Tryz.prog 64 #[.agg (otC o)] w fun e w' => Must (haveB o) e ∧ Below w.heap.size w w' := by
  obtain ⟨ov, hov⟩ : ∃ v, v = otC o := ⟨_, rfl⟩
  have hL : Lies (w.alloc (.cells ov 35)) w.heap.size (otC o) 35 := by rw [hov]; exact Lies.new _ _ _
  have hb0 : Below w.heap.size w (w.alloc (.cells ov 35)) := (Below.refl _ _).alloc (Nat.le_refl _) _
  have hO := h.below hb0 (Nat.le_refl _)
  rw [← hov]
  clear hov h
  obtain ⟨noT, hnT⟩ : ∃ b, b = decide (o.ns.length = 0) := ⟨_, rfl⟩
  obtain ⟨noH, hnH⟩ : ∃ b, b = decide (o.dh = zeroH) := ⟨_, rfl⟩
  obtain ⟨rT, hrT⟩ : ∃ b, b = T.rightB o.ns := ⟨_, rfl⟩
  obtain ⟨hv, hhv⟩ : ∃ v, v = B8 o.dh := ⟨_, rfl⟩
  obtain ⟨zv, hzv⟩ : ∃ v, v = B8 zeroH := ⟨_, rfl⟩
  have heq : ∀ W, (Op.equalIn 10000 30 (.agg hv) (.agg zv)).run Tryz.prog W = .ok noH W := fun W => by
    rw [hhv, hzv, hnH]; exact eq_hash W _ _ hO.dh (by decide)
  have hbld : ∀ W, (Instr.build 30 #[]).run Tryz.prog W = .ok (.agg zv) W := fun W => by rw [hzv]; exact run_build W 30 _ _ built_zeroH
  obtain ⟨n, hn⟩ : ∃ n, n = o.ns.length := ⟨_, rfl⟩
  have hlen : ((n : Int) == 0) = noT := by
    rw [hnT, hn, Bool.eq_iff_iff, beq_iff_eq, decide_eq_true_iff]; omega
  have HS : Hid (∀ V, Below (w.alloc (.cells ov 35)).heap.size (w.alloc (.cells ov 35)) V → V.rangeAt w.heap.size 36 hv.toList ∧ V.cell? ⟨w.heap.size, 68, none⟩ = some (.slice o.tp n o.tc) ∧ V.cell? ⟨w.heap.size, 35, none⟩ = some (.int .i64 o.kind)) := Lib.hid fun V hV => by
    have h1 := lies_at (hL.below hV hL.lt) hO.ah hO.dh
    rw [hhv, hn]
    exact ⟨by simpa using h1.dh, by simpa using h1.term, by simpa using h1.kind⟩
  have HT : Hid (∀ V, Below (w.alloc (.cells ov 35)).heap.size (w.alloc (.cells ov 35)) V → Calls Tryz.prog 118 #[.agg #[.slice o.tp n o.tc]] V fun e w' => e = .returned (.bool rT) ∧ Below V.heap.size V w') := Lib.hid fun V hV => by
    rw [hrT, hn]
    exact T.rightT_any V o.tp o.tc o.ns (hO.t.below hV (Nat.le_refl _)) hO.tc
  have hsz : hv.size = 32 := by rw [hhv, B8_size, hO.dh]
  have hinfo : (Tryz.prog.info? 30).map (·.size) = some hv.size := by rw [hsz]; exact info_hash
  have HB := Lib.hid (And.intro hb0 (show haveB o = if o.kind = 0 then noH && noT else if o.kind = 1 then noT else if o.kind = 2 then noH && rT else false by unfold haveB; rw [← hnH, ← hnT, ← hrT]))
  have HM := Lib.hid (And.intro must1 must2)
  obtain ⟨kd, hkd⟩ : ∃ k, k = o.kind := ⟨_, rfl⟩
  rw [← hkd] at HS HB
  clear hL hb0 hO hnT hnH hrT hhv hzv hn hsz hkd
  go_enter Tryz.func64, Tryz.ntmps64
  go_upto_region 1 with fail
  generalize w.alloc (.cells ov 35) = W0 at HS HT HB ⊢
  obtain ⟨g, hg⟩ : ∃ g, g = w.heap.size := ⟨_, rfl⟩
  rw [← hg] at HS ⊢
  clear hg
  refine wp_region_held (S := Below W0.heap.size W0) (by kernel_rfl) ?_
  change wpAnyH _ _ _ _ _ 11 _ _ (World.drew W0)
  have hcur : Below W0.heap.size W0 W0.drew := (Below.refl _ _).drew
  refine tk 0 (.pointer (some ⟨g, 36, none⟩)) 4 rfl rfl hcur ?_
  refine tk 1 (.agg hv) 5 rfl rfl hcur ?_ (by intro w' hS'; exact exec_loadM 30 (.tmp 4) rfl g 36 rfl hv (HS.out w' hS').1 Tryz.underlying30 rfl hinfo)
  refine tk 2 (.agg zv) 6 rfl rfl hcur ?_ (by intro w' hS'; unfold execOp; simp [go_sem, hbld])
  refine tk 3 (.bool noH) 7 rfl rfl hcur ?_ (by intro w' hS'; unfold execOp; simp [go_sem, heq])
  refine tk 4 (.pointer (some ⟨g, 68, none⟩)) 8 rfl rfl hcur ?_
  refine tk 5 (.pointer (some ⟨g, 68, none⟩)) 9 rfl rfl hcur ?_
  refine tk 6 (.slice o.tp n o.tc) 10 rfl rfl hcur ?_ (by intro w' hS'; have c0 := (HS.out w' hS').2.1; unfold execOp; simp [go_sem, c0])
  refine tk 7 (.int .i64 (n : Int)) 11 rfl rfl hcur ?_
  refine tk 8 (.bool noT) 12 rfl rfl hcur ?_ (by intro w' hS'; unfold execOp; simp [go_sem, hlen])
  refine tk 9 (.bool noH) 2 rfl rfl hcur ?_
  refine tk 10 (.bool noT) 3 rfl rfl hcur ?_
  refine held_done (by kernel_rfl) ?_
  generalize W0.drew = W1 at hcur ⊢
  have c35 := (HS.out _ hcur).2.2
  have c68 := (HS.out _ hcur).2.1
  have H1 := Lib.hid (And.intro hcur (HB.out.1.trans (hcur.mono HB.out.1.size)))
  clear heq hbld hlen hinfo hcur
  by_cases k0 : kd = 0
  · go_wp2_with fail
    refine (HM.out.2 _ _ _).mono ?_
    rintro e U ⟨hm, hb⟩
    have HU := Lib.hid (H1.out.2.trans (hb.mono H1.out.2.size))
    have hh := HB.out.2
    rw [if_pos k0] at hh
    have HH := Lib.hid hh
    clear hb hh k0
    rcases hm with ⟨hx, rfl⟩ | ⟨hx, m, rfl⟩
    · go_wp2_with fail
      go_end0
      exact ⟨.inl ⟨by rw [HH.out]; exact hx, rfl⟩, HU.out⟩
    · go_wp2_with fail
      exact ⟨rfl, .inr ⟨by rw [HH.out]; exact hx, m, rfl⟩, HU.out⟩
  · by_cases k1 : kd = 1
    · go_wp2_with fail
      refine (HM.out.1 _ _).mono ?_
      rintro e U ⟨hm, hb⟩
      have HU := Lib.hid (H1.out.2.trans (hb.mono H1.out.2.size))
      have hh := HB.out.2
      rw [if_neg k0, if_pos k1] at hh
      have HH := Lib.hid hh
      clear hb hh k0 k1
      rcases hm with ⟨hx, rfl⟩ | ⟨hx, m, rfl⟩
      · go_wp2_with fail
        go_end0
        exact ⟨.inl ⟨by rw [HH.out]; exact hx, rfl⟩, HU.out⟩
      · go_wp2_with fail
        exact ⟨rfl, .inr ⟨by rw [HH.out]; exact hx, m, rfl⟩, HU.out⟩
    · by_cases k2 : kd = 2
      · go_wp2_with fail
        refine (HT.out _ H1.out.1).mono ?_
        rintro e U1 ⟨rfl, hb1⟩
        have HU1 := Lib.hid (H1.out.2.trans (hb1.mono H1.out.2.size))
        clear hb1
        go_wp2_with fail
        refine (HM.out.2 _ _ _).mono ?_
        rintro e U ⟨hm, hb⟩
        have HU := Lib.hid (HU1.out.trans (hb.mono HU1.out.size))
        have hh := HB.out.2
        rw [if_neg k0, if_neg k1, if_pos k2] at hh
        have HH := Lib.hid hh
        clear hb hh k0 k1 k2
        rcases hm with ⟨hx, rfl⟩ | ⟨hx, m, rfl⟩
        · go_wp2_with fail
          go_end0
          exact ⟨.inl ⟨by rw [HH.out]; exact hx, rfl⟩, HU.out⟩
        · go_wp2_with fail
          exact ⟨rfl, .inr ⟨by rw [HH.out]; exact hx, m, rfl⟩, HU.out⟩
      · have hh := HB.out.2
        rw [if_neg k0, if_neg k1, if_neg k2] at hh
        have HH := Lib.hid hh
        clear hh
        go_wp2_with fail
        exact ⟨rfl, .inr ⟨HH.out, 4, rfl⟩, H1.out.2⟩
end Go.Proofs.YtilbbemdinpjcaaGreat.P
namespace Go.Proofs.YtilbbemdinpjcaaGreat.P
set_option maxRecDepth 100000
open Go.RowKit Go.Sort

def rightOB (o : Ot) : Bool := rightV o.v && haveB o
theorem info_output : (Tryz.prog.info? 35).map (·.size) = some 69 := by kernel_rfl
theorem callFn (K : Nat) {fn : Func} (hf : Tryz.prog.funcs[K]? = some fn) (hn : (fn.name == "runtime.NumGoroutine") = false) {c : Code} (hb : fn.body = some c) (args : Array Value) : ∀ w : World, (callFunc K args).run Tryz.prog w = .ok (.enter K args) w := fun w => enter_of hf hn hb args w
set_option maxHeartbeats 4000000 in
theorem rightO1_any (w : World) (p : Nat) (o : Ot) (hL : Lies w p (otC o) 35) (h : OtOk w o) :
    Calls Tryz.prog 61 #[.pointer (some ⟨p, 0, none⟩)] w fun e w' => Must (rightOB o) e ∧ Below w.heap.size w w' := by
  have h1 := lies_at hL h.ah h.dh
  have c33 : w.cell? ⟨p, 33, none⟩ = some (.int .i64 o.v.coin) := by simpa using h1.coin
  have c34 : w.cell? ⟨p, 34, none⟩ = some (.slice o.v.pa o.v.l.length o.v.c) := by simpa using h1.assets
  have hr := right_any w o.v.coin o.v.pa o.v.l o.v.c h.v.2.2
  obtain ⟨b, hbb⟩ : ∃ b, b = rightV o.v := ⟨_, rfl⟩
  have hr : Calls Tryz.prog 63 #[.agg #[.int .i64 o.v.coin, .slice o.v.pa o.v.l.length o.v.c]] w fun e w' => e = .returned (.bool b) ∧ Below w.heap.size w w' := by rw [hbb]; exact hr
  obtain ⟨ov, hov⟩ : ∃ v, v = otC o := ⟨_, rfl⟩
  have hsz : ov.size = 69 := by rw [hov]; exact otC_size o h.ah h.dh
  have HM : Hid (∀ V, Below w.heap.size w V → Calls Tryz.prog 64 #[.agg ov] V fun e w' => Must (haveB o) e ∧ Below V.heap.size V w') := Lib.hid fun V hV => by rw [hov]; exact mustHave_any V o (h.below hV (Nat.le_refl _))
  have HL : Hid (∀ V, Below w.heap.size w V → Lies V p ov 35) := Lib.hid fun V hV => by rw [hov]; exact hL.below hV hL.lt
  have HI := Lib.hid (show (Tryz.prog.info? 35).map (·.size) = some ov.size by rw [hsz]; exact info_output)
  have HR := Lib.hid hr
  have HB := Lib.hid (show rightOB o = (b && haveB o) by unfold rightOB; rw [← hbb])
  clear hL h h1 hr hbb hov hsz
  go_enter Tryz.func61, Tryz.ntmps61
  go_wp2_with fail
  refine HR.out.mono ?_
  rintro e U1 ⟨rfl, hb1⟩
  have H1 := Lib.hid hb1
  clear hb1 c33 c34
  go_wp2_with fail
  refine (must1 _ _).mono ?_
  rintro e U2 ⟨hm, hb2⟩
  have H2 := Lib.hid (H1.out.trans (hb2.mono H1.out.size))
  clear hb2
  rcases hm with ⟨hx, rfl⟩ | ⟨hx, m, rfl⟩
  · have HX := Lib.hid hx
    clear hx
    go_wp2_with (refine wpList_load_row rfl 35 _ rfl p rfl 35 ov (0, 0) _ (HL.out _ H2.out) Tryz.underlying35 rfl HI.out ?_)
    refine (HM.out _ H2.out).mono ?_
    rintro e U3 ⟨hm, hb3⟩
    have H3 := Lib.hid (H2.out.trans (hb3.mono H2.out.size))
    clear hb3
    rcases hm with ⟨hy, rfl⟩ | ⟨hy, m, rfl⟩
    · have HY := Lib.hid hy
      clear hy
      go_wp2_with fail
      go_end0
      exact ⟨.inl ⟨by rw [HB.out, HX.out, HY.out]; rfl, rfl⟩, H3.out⟩
    · have HY := Lib.hid hy
      clear hy
      go_wp2_with fail
      exact ⟨rfl, .inr ⟨by rw [HB.out, HX.out, HY.out]; rfl, m, rfl⟩, H3.out⟩
  · have HX := Lib.hid hx
    clear hx
    go_wp2_with fail
    exact ⟨rfl, .inr ⟨by rw [HB.out, HX.out]; rfl, m, rfl⟩, H2.out⟩
theorem rightOutput_any (w : World) (o : Ot) (h : OtOk w o) :
    Calls Tryz.prog 13 #[.agg (otC o)] w fun e w' => e = .returned (.bool (rightOB o)) ∧ Below w.heap.size w w' := by
  have hmf : ∀ (fn : Fn) (first cap : Array Value) (w : World), (Instr.makeFunc fn first cap).run Tryz.prog w = .ok (.func fn first cap) w := fun _ _ _ _ => rfl
  obtain ⟨ov, hov⟩ : ∃ v, v = otC o := ⟨_, rfl⟩
  have hL : Lies (w.alloc (.cells ov 35)) w.heap.size ov 35 := Lies.new _ _ _
  have hb0 : Below w.heap.size w (w.alloc (.cells ov 35)) := (Below.refl _ _).alloc (Nat.le_refl _) _
  have hm := met_any (w.alloc (.cells ov 35)) 61 #[.pointer (some ⟨w.heap.size, 0, none⟩)] (rightOB o) (callFn _ Tryz.func61 (by kernel_rfl) rfl _) (fun w1 hw1 => rightO1_any w1 w.heap.size o (by rw [← hov]; exact hL.below hw1 hL.lt) (h.below (hb0.trans (hw1.mono hb0.size)) (Nat.le_refl _)))
  rw [← hov]
  have HM := Lib.hid (And.intro hm hb0)
  obtain ⟨b, hb⟩ : ∃ b, b = rightOB o := ⟨_, rfl⟩
  rw [← hb] at HM ⊢
  clear hm hb0 hL hov h hb
  go_enter Tryz.func13, Tryz.ntmps13
  go_wp2_with fail
  refine HM.out.1.mono ?_
  rintro e U ⟨rfl, hb⟩
  have HU := Lib.hid (HM.out.2.trans (hb.mono HM.out.2.size))
  clear hb
  go_wp2_with fail
  go_ret
  exact ⟨rfl, HU.out⟩
end Go.Proofs.YtilbbemdinpjcaaGreat.P
