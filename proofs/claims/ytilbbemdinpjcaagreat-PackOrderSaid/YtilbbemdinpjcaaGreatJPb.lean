/-
  pack: met: do asks throw nothing?
-/
import Derived.Test.YtilbbemdinpjcaaGreatJVe
import Derived.Deep.Cut
import Derived.Deep.DeepMust
import Derived.IntWalk
import Derived.Deep.WholeRow
import Derived.Defers
namespace Go.Proofs.YtilbbemdinpjcaaGreat
set_option maxRecDepth 100000
open Go.RowKit Go.Sort

instance : Inhabited As := ⟨⟨([], []), 0⟩⟩
/-- Assets lie one behind the other. -/
def HasA (w : World) (g off : Nat) (l : List As) : Prop := ∀ i a, l[i]? = some a → w.rangeAt g (off + i * 34) (asC a).toList
theorem HasA.below {B : Nat} {w w' : World} {g off : Nat} {l : List As} (h : HasA w g off l) (hb : Below B w w') (hg : g < B) : HasA w' g off l :=
  fun i a hi j v hv => (hb.cell (p := ⟨g, off + i * 34 + j, none⟩) hg).trans (h i a hi j v hv)
section
variable {P : Program} {ops : Array Oper} {Q : Exit → Act → World → Prop}
theorem wpList_enter_want {rest : List Oper} {o : Oper} {a : Act} {w : World} (hw : Region.wanted o (yielded ops a.tmps) = true) (f : FuncId) (args : Array Value)
    (hr : (execOp a.eval o).run P w = .ok (.enter f args) w) (R : Value → World → Prop) (hc : Calls P f args w fun e w' => ∃ v, e = .returned v ∧ R v w')
    (h : ∀ v w', R v w' → wpList P ops Q rest (a.put o.dst v) w') : wpList P ops Q (o :: rest) a w :=
  BigFrame.wpList_want hw fun K hK => by
    unfold Oper.wp
    rw [hr, Oper.upon_enter]
    refine hc.mono fun e w' hh => ?_
    obtain ⟨v, rfl, hR⟩ := hh
    exact hK _ _ (h v w' hR)
theorem wpList_row_want {rest : List Oper} {o : Oper} {a : Act} {w : World} (hw : Region.wanted o (yielded ops a.tmps) = true) (ty : TypeId) (x : Operand) (ho : o.op = .load ty x)
    (g : Nat) (hx : a.eval x = .pointer (some ⟨g, 0, none⟩)) (t : TypeId) (cs : Array Value) (fr : Nat × Nat) (d : TypeDesc) (hg : w.heap[g]? = some (.cells cs t fr))
    (hu : P.underlying ty = some d) (hd : (match d with | .struct _ | .array _ _ => true | _ => false) = true) (hi : (P.info? ty).map (·.size) = some cs.size)
    (h : wpList P ops Q rest (a.put o.dst (.agg cs)) w) : wpList P ops Q (o :: rest) a w :=
  BigFrame.wpList_want hw fun _ hK => wp_load_row ty x ho g hx t cs fr d hg hu hd hi (hK _ _ h)
end
theorem ret_of {P : Program} {f : FuncId} {args : Array Value} {w : World} {v : Value} {B : Nat} {w0 : World} (h : Calls P f args w fun e w' => e = .returned v ∧ Below B w0 w') : Calls P f args w fun e w' => ∃ v2, e = .returned v2 ∧ (v2 = v ∧ Below B w0 w') :=
  h.mono fun _ _ h => ⟨v, h.1, rfl, h.2⟩
theorem txt_size (l : List UInt8) : (txt l).size = l.length := by show l.toArray.size = _; simp
/-- Is the i-th one called well, and as is asked? -/
def okAt (p : As → Bool) (l : List As) (i : Nat) : Bool :=
  decide ((l.getD i default).nm.2.length ≤ 32) && p (l.getD i default) && (i == 0 || decide (cN (l.getD (i - 1) default).nm (l.getD i default).nm < 0))
def wellB (p : As → Bool) (l : List As) : Bool := (List.range l.length).all (okAt p l)
theorem well_no {p : As → Bool} {l : List As} {i : Nat} (hi : i < l.length) (h : okAt p l i = false) : wellB p l = false := by
  unfold wellB
  rw [List.all_eq_false]
  exact ⟨i, List.mem_range.2 hi, by rw [h]; simp⟩
theorem well_yes {p : As → Bool} {l : List As} (h : ∀ i, i < l.length → okAt p l i = true) : wellB p l = true := by
  unfold wellB
  rw [List.all_eq_true]
  exact fun i hi => h i (List.mem_range.1 hi)
def z34 : Array Value := ((Array.replicate 32 (.int .u8 0)).push (.string ⟨#[]⟩)).push (.int .i64 0)
set_option maxHeartbeats 4000000 in
theorem well_any (K : Nat) (p : As → Bool) (hK : ∀ args w, (callFunc K args).run Tryz.prog w = .ok (.enter K args) w)
    (hp : ∀ (w : World) (a : As), a.nm.1.length = 32 → Calls Tryz.prog K #[.agg (asC a)] w fun e w' => e = .returned (.bool (p a)) ∧ Below w.heap.size w w')
    (w : World) (pa : Option Addr) (l : List As) (c : Nat) (hl : l.length ≤ maxLen) (hok : ∀ a, a ∈ l → a.nm.1.length = 32 ∧ a.nm.2.length ≤ maxLen)
    (hsrc : 0 < l.length → ∃ g off, pa = some ⟨g, off, none⟩ ∧ g < w.heap.size ∧ HasA w g off l) :
    Calls Tryz.prog 130 #[.slice pa l.length c, .func (.func 131) #[] #[], .func (.func K) #[] #[]] w fun e w' => e = .returned (.bool (wellB p l)) ∧ Below w.heap.size w w' := by
  have hli : (l.length : Int) ≤ 9223372036854775807 := by unfold maxLen at hl; omega
  have HS := Lib.hid (And.intro hsrc hok)
  have HP := Lib.hid hp
  clear hsrc hok hp hl
  go_enter Tryz.func130, Tryz.ntmps130
  go_wp2_with fail
  go_loopw [12] (fun i W => ∃ k : Nat, k ≤ l.length ∧ i = .int .i64 k ∧ Below w.heap.size w W ∧ ∀ i, i < k → okAt p l i = true) (fun i _ => l.length - (intOf i).toNat)
  case atStart => exact ⟨0, Nat.zero_le _, rfl, Below.refl _ _, fun i hi => absurd hi (by omega)⟩
  case round =>
    obtain ⟨k, hk, rfl, hb, hall⟩ := hrel
    by_cases hlt : k < l.length
    · have m1 : (k : Int) < (l.length : Int) := by omega
      have m0 : (0 : Int) ≤ (k : Int) := by omega
      obtain ⟨g, off, rfl, hg, hhas⟩ := HS.out.1 (by omega)
      obtain ⟨a, ha⟩ : ∃ a, a = l[k] := ⟨_, rfl⟩
      have hka : l[k]? = some a := by rw [ha, List.getElem?_eq_getElem hlt]
      have hkd : l.getD k default = a := by rw [List.getD_eq_getElem?_getD, hka]; rfl
      have hao := HS.out.2 a (List.mem_of_getElem? hka)
      have hrg := (hhas.below hb hg) k a hka
      obtain ⟨va, hva⟩ : ∃ v, v = asC a := ⟨_, rfl⟩
      have hvs : va.size = 34 := by rw [hva]; exact asC_size a hao.1
      rw [← hva] at hrg
      have HR := Lib.hid (And.intro hb (And.intro hall (And.intro hlt (And.intro hka (And.intro hkd (And.intro hao (And.intro hva (And.intro hvs (And.intro hg hhas)))))))))
      have HRG := Lib.hid hrg
      clear hb hall hlt hk ha hka hkd hao hrg hva hvs hg hhas
      have eA : ∀ W, Calls Tryz.prog 131 #[.agg va] W fun e w' => e = .returned (.agg (nmC a.nm)) ∧ Below W.heap.size W w' := fun W => by
        rw [HR.out.2.2.2.2.2.2.1]; exact callAsset_any W a HR.out.2.2.2.2.2.1.1
      have HEA := Lib.hid eA
      clear eA
      go_upto_region 4 with (first
        | (refine wpList_load_mid rfl 146 _ rfl g (off + k * 34) rfl va.toList _ HRG.out Tryz.underlying146 rfl (by rw [Array.length_toList, HR.out.2.2.2.2.2.2.2.1]; exact info_asset) ?_)
        | (refine wpList_store_row rfl 146 _ _ rfl wr.heap.size va rfl rfl 146 z34 (Lies.new wr z34 146) (by rw [HR.out.2.2.2.2.2.2.2.1]; exact info_asset) (by rw [HR.out.2.2.2.2.2.2.2.1]; kernel_rfl) (by rw [HR.out.2.2.2.2.2.2.1]; exact asC_one a) ?_))
      rw [World.setRow_alloc_new]
      have hL1 : Lies (wr.alloc (.cells va 146)) wr.heap.size va 146 := Lies.new _ _ _
      have hb1 : Below wr.heap.size wr (wr.alloc (.cells va 146)) := (Below.refl _ _).alloc (Nat.le_refl _) _
      have hs1 : (wr.alloc (.cells va 146)).heap.size = wr.heap.size + 1 := by simp
      generalize wr.alloc (.cells va 146) = W1 at hL1 hb1 hs1 ⊢
      obtain ⟨nv, hnv⟩ : ∃ v, v = nmC a.nm := ⟨_, rfl⟩
      have hns : nv.size = 33 := by rw [hnv]; exact nmC_size a.nm HR.out.2.2.2.2.2.1.1
      have HEA' : Hid (∀ W, Calls Tryz.prog 131 #[.agg va] W fun e w' => e = .returned (.agg nv) ∧ Below W.heap.size W w') := by rw [hnv]; exact HEA
      have H1 := Lib.hid (And.intro hL1 (And.intro hb1 (And.intro hs1 (And.intro hnv hns))))
      clear HEA hL1 hb1 hs1 hnv hns
      go_upto_region 5 with (first
        | (refine wpList_load_row rfl 146 _ rfl wr.heap.size rfl 146 va (0, 0) _ H1.out.1 Tryz.underlying146 rfl (by rw [HR.out.2.2.2.2.2.2.2.1]; exact info_asset) ?_)
        | (go_at_call 131; refine (HEA'.out _).mono ?_; rintro e W2 ⟨rfl, hb2⟩)
        | (refine wpList_store_row rfl 255 _ _ rfl _ nv rfl rfl 255 z33 (Lies.new _ z33 255) (by rw [H1.out.2.2.2.2]; exact info_called) (by rw [H1.out.2.2.2.2]; kernel_rfl) (by rw [H1.out.2.2.2.1]; exact nmC_one a.nm) ?_))
      rw [World.setRow_alloc_new]
      have hpr := HP.out
      obtain ⟨B3, hB3⟩ : ∃ b, b = W2.heap.size := ⟨_, rfl⟩
      have hL3 : Lies (W2.alloc (.cells nv 255)) B3 nv 255 := by rw [hB3]; exact Lies.new _ _ _
      have hb3 : Below wr.heap.size wr (W2.alloc (.cells nv 255)) := H1.out.2.1.trans ((hb2.alloc hb2.size _).mono (by rw [H1.out.2.2.1]; omega))
      have hA3 : Lies (W2.alloc (.cells nv 255)) wr.heap.size va 146 := (H1.out.1.below hb2 H1.out.1.lt).alloc _
      rw [← hB3]
      generalize W2.alloc (.cells nv 255) = W3 at hL3 hb3 hA3 ⊢
      have c32 := hL3.cell 32 (v := .string (txt a.nm.2)) (by rw [H1.out.2.2.2.1]; exact nmC_txt a.nm HR.out.2.2.2.2.2.1.1)
      have hts := txt_size a.nm.2
      generalize txt a.nm.2 = tv at c32 hts
      have htl : (tv.size : Int) ≤ 9223372036854775807 := by have := HR.out.2.2.2.2.2.1.2; unfold maxLen at this; omega
      have H3 := Lib.hid (And.intro hL3 (And.intro hb3 (And.intro hA3 hts)))
      clear hL3 hb3 hA3 hts hB3 hb2 hpr HEA'
      by_cases hlong : 32 < a.nm.2.length
      · have m2 : (32 : Int) < (tv.size : Int) := by rw [H3.out.2.2.2]; omega
        go_wp2_with fail
        go_ret
        refine ⟨?_, HR.out.1.trans (H3.out.2.1.mono HR.out.1.size)⟩
        rw [well_no HR.out.2.2.1 (by unfold okAt; rw [HR.out.2.2.2.2.1]; simp; omega)]
        rfl
      · have m2 : (tv.size : Int) ≤ (32 : Int) := by rw [H3.out.2.2.2]; omega
        have hd : decide ((32 : Int) < (tv.size : Int)) = false := by simp; omega
        have HK := Lib.hid (HP.out W3 a HR.out.2.2.2.2.2.1.1)
        rw [← HR.out.2.2.2.2.2.2.1] at HK
        cases hpa : p a with
        | false =>
          rw [hpa] at HK
          go_wp2_with (first
            | (refine wpList_row_want (by first | kernel_rfl | (rw [hd]; kernel_rfl)) 146 _ rfl wr.heap.size rfl 146 va (0, 0) _ H3.out.2.2.1 Tryz.underlying146 rfl (by rw [HR.out.2.2.2.2.2.2.2.1]; exact info_asset) ?_)
            | (refine HK.out.mono ?_; rintro e W4 ⟨rfl, hb4⟩))
          go_ret
          refine ⟨?_, HR.out.1.trans ((H3.out.2.1.trans (hb4.mono H3.out.2.1.size)).mono HR.out.1.size)⟩
          rw [well_no HR.out.2.2.1 (by unfold okAt; rw [HR.out.2.2.2.2.1, hpa]; simp)]
          rfl
        | true =>
          rw [hpa] at HK
          go_upto_region 7 with (first
            | (refine wpList_row_want (by first | kernel_rfl | (rw [hd]; kernel_rfl)) 146 _ rfl wr.heap.size rfl 146 va (0, 0) _ H3.out.2.2.1 Tryz.underlying146 rfl (by rw [HR.out.2.2.2.2.2.2.2.1]; exact info_asset) ?_)
            | (refine HK.out.mono ?_; rintro e W4 ⟨rfl, hb4⟩))
          have hb4w : Below w.heap.size w W4 := HR.out.1.trans ((H3.out.2.1.trans (hb4.mono H3.out.2.1.size)).mono HR.out.1.size)
          have hL4 : Lies W4 B3 nv 255 := H3.out.1.below hb4 H3.out.1.lt
          have h32 : a.nm.2.length ≤ 32 := by omega
          have H4 := Lib.hid (And.intro hL4 (And.intro hb4w (And.intro h32 hpa)))
          clear hL4 hb4w h32 hpa hb4 HK hd hlong m2 c32 htl
          by_cases hk0 : k = 0
          · have kz : ¬ (0 : Int) < (k : Int) := by omega
            have HOK := Lib.hid (show okAt p l k = true by unfold okAt; rw [HR.out.2.2.2.2.1, H4.out.2.2.2]; simpa [hk0] using H4.out.2.2.1)
            have HK0 := Lib.hid hk0
            clear hk0
            refine wp_region_noPanic (wp_region_held (S := fun V => True) (by kernel_rfl) ?_)
            change wpAnyH _ _ _ _ _ 14 _ _ (World.drew W4)
            have hcur : True := trivial
            refine tk 0 (.int .i64 k) 30 rfl rfl hcur ?_
            refine tk 1 (.bool false) 31 rfl rfl hcur ?_ (by intro w' hS'; unfold execOp; simp [go_sem]; exact HK0.out)
            refine tk 2 (.bool false) 32 rfl rfl hcur ?_
            refine held_skip (i := 3) rfl 33 rfl (by kernel_rfl) (by kernel_rfl) (by kernel_rfl) (fun _ _ _ h => h) (by rfl) hcur _ rfl ?_
            simp only [Act.put, List.setIfInBounds_toArray, List.set_cons_zero, List.set_cons_succ]
            refine held_skip (i := 4) rfl 34 rfl (by kernel_rfl) (by kernel_rfl) (by kernel_rfl) (fun _ _ _ h => h) (by rfl) hcur _ rfl ?_
            simp only [Act.put, List.setIfInBounds_toArray, List.set_cons_zero, List.set_cons_succ]
            refine held_skip (i := 5) rfl 35 rfl (by kernel_rfl) (by kernel_rfl) (by kernel_rfl) (fun _ _ _ h => h) (by rfl) hcur _ rfl ?_
            simp only [Act.put, List.setIfInBounds_toArray, List.set_cons_zero, List.set_cons_succ]
            refine held_skip (i := 6) rfl 36 rfl (by kernel_rfl) (by kernel_rfl) (by kernel_rfl) (fun _ _ _ h => h) (by rfl) hcur _ rfl ?_
            simp only [Act.put, List.setIfInBounds_toArray, List.set_cons_zero, List.set_cons_succ]
            refine held_skip (i := 7) rfl 37 rfl (by kernel_rfl) (by kernel_rfl) (by kernel_rfl) (fun _ _ _ h => h) (by rfl) hcur _ rfl ?_
            simp only [Act.put, List.setIfInBounds_toArray, List.set_cons_zero, List.set_cons_succ]
            refine held_skip (i := 8) rfl 38 rfl (by kernel_rfl) (by kernel_rfl) (by kernel_rfl) (fun _ _ _ h => h) (by rfl) hcur _ rfl ?_
            simp only [Act.put, List.setIfInBounds_toArray, List.set_cons_zero, List.set_cons_succ]
            refine held_skip (i := 9) rfl 39 rfl (by kernel_rfl) (by kernel_rfl) (by kernel_rfl) (fun _ _ _ h => h) (by rfl) hcur _ rfl ?_
            simp only [Act.put, List.setIfInBounds_toArray, List.set_cons_zero, List.set_cons_succ]
            refine held_skip (i := 10) rfl 40 rfl (by kernel_rfl) (by kernel_rfl) (by kernel_rfl) (fun _ _ _ h => h) (by rfl) hcur _ rfl ?_
            simp only [Act.put, List.setIfInBounds_toArray, List.set_cons_zero, List.set_cons_succ]
            refine held_skip (i := 11) rfl 41 rfl (by kernel_rfl) (by kernel_rfl) (by kernel_rfl) (fun _ _ _ h => h) (by rfl) hcur _ rfl ?_
            simp only [Act.put, List.setIfInBounds_toArray, List.set_cons_zero, List.set_cons_succ]
            refine held_skip (i := 12) rfl 42 rfl (by kernel_rfl) (by kernel_rfl) (by kernel_rfl) (fun _ _ _ h => h) (by rfl) hcur _ rfl ?_
            simp only [Act.put, List.setIfInBounds_toArray, List.set_cons_zero, List.set_cons_succ]
            refine tk 13 (.bool false) 43 rfl rfl hcur ?_
            refine wpAnyH_done (by kernel_rfl) ?_ _
            unfold NoPanic
            dsimp only
            clear hcur
            go_wp2_with fail
            have e1 : (k : Int) + 1 = ((k + 1 : Nat) : Int) := by omega
            rw [e1]
            refine ⟨⟨k + 1, HR.out.2.2.1, rfl, H4.out.2.1.trans ((Below.refl _ _).drew.mono H4.out.2.1.size), fun i hi => ?_⟩, ?_⟩
            · by_cases e : i = k
              · rw [e]; exact HOK.out
              · exact HR.out.2.1 i (by omega)
            · have h := HR.out.2.2.1
              show l.length - (k + 1) < l.length - k
              omega
          · obtain ⟨kp, hkp⟩ : ∃ i, i = k - 1 := ⟨_, rfl⟩
            have kpos : (0 : Int) < (k : Int) := by omega
            have ksub : wrap64 ((k : Int) - 1) = (kp : Int) := by unfold wrap64; omega
            have kp0 : (0 : Int) ≤ (kp : Int) := by omega
            have kpl : (kp : Int) < (l.length : Int) := by omega
            have hkpl : kp < l.length := by omega
            obtain ⟨b, hb⟩ : ∃ b, b = l[kp] := ⟨_, rfl⟩
            have hkb : l[kp]? = some b := by rw [hb, List.getElem?_eq_getElem hkpl]
            have hbd' : l.getD (k - 1) default = b := by rw [← hkp, List.getD_eq_getElem?_getD, hkb]; rfl
            have hbo := HS.out.2 b (List.mem_of_getElem? hkb)
            obtain ⟨vb, hvb⟩ : ∃ v, v = asC b := ⟨_, rfl⟩
            obtain ⟨nb, hnb⟩ : ∃ v, v = nmC b.nm := ⟨_, rfl⟩
            obtain ⟨x, hxe⟩ : ∃ x, x = cN b.nm a.nm := ⟨_, rfl⟩
            have hvs : vb.size = 34 := by rw [hvb]; exact asC_size b hbo.1
            have hcall : ∀ W, Calls Tryz.prog 131 #[.agg vb] W fun e w' => e = .returned (.agg nb) ∧ Below W.heap.size W w' := fun W => by
              rw [hvb, hnb]; exact callAsset_any W b hbo.1
            have hord : ∀ W, Calls Tryz.prog 205 #[.agg nb, .agg nv] W fun e w' => e = .returned (.int .i64 x) ∧ Below W.heap.size W w' := fun W => by
              rw [hnb, H1.out.2.2.2.1, hxe]; exact order_any W b.nm a.nm hbo.1 HR.out.2.2.2.2.2.1.1
            have HB := Lib.hid (And.intro hvs (And.intro (show (Tryz.prog.info? 146).map (·.size) = some vb.size by rw [hvs]; exact info_asset) (And.intro (show (Tryz.prog.info? 255).map (·.size) = some nv.size by rw [H1.out.2.2.2.2]; exact info_called) (And.intro hcall hord))))
            have HS7 : Hid (∀ V, Below W4.heap.size W4 V → V.rangeAt g (off + kp * 34) vb.toList ∧ Lies V B3 nv 255) := Lib.hid fun V hV =>
              ⟨by rw [hvb]; exact (HR.out.2.2.2.2.2.2.2.2.2.below (H4.out.2.1.trans (hV.mono H4.out.2.1.size)) HR.out.2.2.2.2.2.2.2.2.1) kp b hkb, H4.out.1.below hV H4.out.1.lt⟩
            have HX := Lib.hid (And.intro hbd' (And.intro hxe hk0))
            clear hb hkb hbo hvb hnb hxe hvs hcall hord hkpl hkp hbd' hk0
            have s0 := HS7.out _ (Below.refl _ _).drew
            refine wp_region_noPanic (wp_region_held (S := fun V => V.rangeAt g (off + kp * 34) vb.toList ∧ Lies V B3 nv 255) (by kernel_rfl) ?_)
            change wpAnyH _ _ _ _ _ 14 _ _ (World.drew W4)
            have hbd : Below W4.heap.size W4 W4.drew := (Below.refl _ _).drew
            have hb4w := H4.out.2.1
            generalize World.drew W4 = wd at s0 hbd ⊢
            have hcur := s0
            by_cases hx : (0 : Int) ≤ x
            · skip
              refine tk 0 (.int .i64 k) 30 rfl rfl hcur ?_
              refine tk 1 (.bool true) 31 rfl rfl hcur ?_ (by intro w' hS'; unfold execOp; simp [go_sem]; omega)
              refine tk 2 (.bool true) 32 rfl rfl hcur ?_
              refine tk 3 (.func (.func 131) #[] #[]) 33 rfl rfl hcur ?_
              refine tk 4 (.slice (some ⟨g, off, none⟩) l.length c) 34 rfl rfl hcur ?_
              refine tk 5 (.int .i64 k) 35 rfl rfl hcur ?_
              refine tk 6 (.int .i64 kp) 36 rfl rfl hcur ?_ (by intro w' hS'; unfold execOp; simp [go_sem]; rw [IntKind.wrap_i64]; unfold wrap64 at ksub; omega)
              refine tk 7 (.pointer (some ⟨g, off + kp * 34, none⟩)) 37 rfl rfl hcur ?_ (by intro w' hS'; unfold execOp; simp [go_sem, kp0, kpl])
              refine tk 8 (.agg vb) 38 rfl rfl hcur ?_ (by intro w' hS'; exact exec_loadM 146 _ rfl _ _ rfl vb hS'.1 Tryz.underlying146 rfl HB.out.2.1)
              refine tk 10 (.agg nv) 40 rfl rfl hcur ?_ (by intro w' hS'; exact exec_loadM 255 _ rfl _ _ rfl nv (range_lies hS'.2) Tryz.underlying255 rfl HB.out.2.2.1)
              refine held_one (i := 9) (by kernel_rfl) _ rfl (wpOp_callG rfl (by rfl) 39 rfl 131 #[.agg vb] (by unfold execOp; simp [go_sem]) _ (ret_of (HB.out.2.2.2.1 wd)) ?_)
              rintro v9 w9 ⟨rfl, hb9⟩
              have hb9' := hbd.trans (hb9.mono hbd.size)
              have hcur := HS7.out _ hb9'
              refine ⟨hcur, ?_⟩
              simp only [Act.put, List.setIfInBounds_toArray, List.set_cons_zero, List.set_cons_succ]
              refine held_one (i := 11) (by kernel_rfl) _ rfl (wpOp_callG rfl (by rfl) 41 rfl 205 #[.agg nb, .agg nv] (by unfold execOp; simp [go_sem]) _ (ret_of (HB.out.2.2.2.2 w9)) ?_)
              rintro v11 w11 ⟨rfl, hb11⟩
              have hb11' := hb9'.trans (hb11.mono hb9'.size)
              have hcur := HS7.out _ hb11'
              refine ⟨hcur, ?_⟩
              simp only [Act.put, List.setIfInBounds_toArray, List.set_cons_zero, List.set_cons_succ]
              refine tk 12 (.bool true) 42 rfl rfl hcur ?_ (by intro w' hS'; unfold execOp; simp [go_sem, hx])
              refine tk 13 (.bool true) 43 rfl rfl hcur ?_
              refine wpAnyH_done (by kernel_rfl) ?_ _
              unfold NoPanic
              dsimp only
              have HBW := Lib.hid (hb4w.trans (hb11'.mono hb4w.size))
              clear hbd hcur hb9 hb9' hb11 hb11' hb4w
              go_wp2_with fail
              go_ret
              refine ⟨?_, HBW.out⟩
              rw [well_no HR.out.2.2.1 (by unfold okAt; rw [HR.out.2.2.2.2.1, HX.out.1, ← HX.out.2.1]; simp; omega)]
              rfl
            · skip
              refine tk 0 (.int .i64 k) 30 rfl rfl hcur ?_
              refine tk 1 (.bool true) 31 rfl rfl hcur ?_ (by intro w' hS'; unfold execOp; simp [go_sem]; omega)
              refine tk 2 (.bool true) 32 rfl rfl hcur ?_
              refine tk 3 (.func (.func 131) #[] #[]) 33 rfl rfl hcur ?_
              refine tk 4 (.slice (some ⟨g, off, none⟩) l.length c) 34 rfl rfl hcur ?_
              refine tk 5 (.int .i64 k) 35 rfl rfl hcur ?_
              refine tk 6 (.int .i64 kp) 36 rfl rfl hcur ?_ (by intro w' hS'; unfold execOp; simp [go_sem]; rw [IntKind.wrap_i64]; unfold wrap64 at ksub; omega)
              refine tk 7 (.pointer (some ⟨g, off + kp * 34, none⟩)) 37 rfl rfl hcur ?_ (by intro w' hS'; unfold execOp; simp [go_sem, kp0, kpl])
              refine tk 8 (.agg vb) 38 rfl rfl hcur ?_ (by intro w' hS'; exact exec_loadM 146 _ rfl _ _ rfl vb hS'.1 Tryz.underlying146 rfl HB.out.2.1)
              refine tk 10 (.agg nv) 40 rfl rfl hcur ?_ (by intro w' hS'; exact exec_loadM 255 _ rfl _ _ rfl nv (range_lies hS'.2) Tryz.underlying255 rfl HB.out.2.2.1)
              refine held_one (i := 9) (by kernel_rfl) _ rfl (wpOp_callG rfl (by rfl) 39 rfl 131 #[.agg vb] (by unfold execOp; simp [go_sem]) _ (ret_of (HB.out.2.2.2.1 wd)) ?_)
              rintro v9 w9 ⟨rfl, hb9⟩
              have hb9' := hbd.trans (hb9.mono hbd.size)
              have hcur := HS7.out _ hb9'
              refine ⟨hcur, ?_⟩
              simp only [Act.put, List.setIfInBounds_toArray, List.set_cons_zero, List.set_cons_succ]
              refine held_one (i := 11) (by kernel_rfl) _ rfl (wpOp_callG rfl (by rfl) 41 rfl 205 #[.agg nb, .agg nv] (by unfold execOp; simp [go_sem]) _ (ret_of (HB.out.2.2.2.2 w9)) ?_)
              rintro v11 w11 ⟨rfl, hb11⟩
              have hb11' := hb9'.trans (hb11.mono hb9'.size)
              have hcur := HS7.out _ hb11'
              refine ⟨hcur, ?_⟩
              simp only [Act.put, List.setIfInBounds_toArray, List.set_cons_zero, List.set_cons_succ]
              refine tk 12 (.bool false) 42 rfl rfl hcur ?_ (by intro w' hS'; unfold execOp; simp [go_sem, hx])
              refine tk 13 (.bool false) 43 rfl rfl hcur ?_
              refine wpAnyH_done (by kernel_rfl) ?_ _
              unfold NoPanic
              dsimp only
              have HBW := Lib.hid (hb4w.trans (hb11'.mono hb4w.size))
              clear hbd hcur hb9 hb9' hb11 hb11' hb4w
              have HOK := Lib.hid (show okAt p l k = true by unfold okAt; rw [HR.out.2.2.2.2.1, HX.out.1, ← HX.out.2.1, H4.out.2.2.2]; simp; exact ⟨H4.out.2.2.1, Or.inr (by omega)⟩)
              go_wp2_with fail
              have e1 : (k : Int) + 1 = ((k + 1 : Nat) : Int) := by omega
              rw [e1]
              refine ⟨⟨k + 1, HR.out.2.2.1, rfl, HBW.out, fun i hi => ?_⟩, ?_⟩
              · by_cases e : i = k
                · rw [e]; exact HOK.out
                · exact HR.out.2.1 i (by omega)
              · have h := HR.out.2.2.1
                show l.length - (k + 1) < l.length - k
                omega
    · have e1 : k = l.length := by omega
      have HF := Lib.hid (And.intro hb (And.intro hall e1))
      have m1 : ¬ (k : Int) < (l.length : Int) := by omega
      clear hb hall e1 hk hlt
      go_wp2_with fail
      go_ret
      refine ⟨?_, HF.out.1⟩
      rw [well_yes (fun i hi => HF.out.2.1 i (by rw [HF.out.2.2]; exact hi))]
      rfl
end Go.Proofs.YtilbbemdinpjcaaGreat
namespace Go.Proofs.YtilbbemdinpjcaaGreat
set_option maxRecDepth 100000
open Go.RowKit Go.Sort

theorem enter_of {P : Program} {f : FuncId} {fn : Func} {c : Code} (hf : P.funcs[f]? = some fn) (hname : (fn.name == "runtime.NumGoroutine") = false) (hb : fn.body = some c) (args : Array Value) (w : World) :
    (callFunc f args).run P w = .ok (.enter f args) w := by
  have h1 : fn.name ≠ "runtime.NumGoroutine" := by simpa using hname
  simp [callFunc, hf, h1, hb]
theorem enterPos (args : Array Value) (w : World) : (callFunc 129 args).run Tryz.prog w = .ok (.enter 129 args) w :=
  enter_of Tryz.func129 (by kernel_rfl) rfl args w
def isPos (a : As) : Bool := decide (1 ≤ a.amt)
/-- A row of assets lies in memory, whole. -/
def Row (w : World) (pa : Option Addr) (l : List As) : Prop := l.length ≤ maxLen ∧ (∀ a, a ∈ l → AsOk a) ∧ (0 < l.length → ∃ g off, pa = some ⟨g, off, none⟩ ∧ g < w.heap.size ∧ HasA w g off l)
theorem Row.below {B : Nat} {w w' : World} {pa : Option Addr} {l : List As} (h : Row w pa l) (hb : Below B w w') (hB : w.heap.size ≤ B) : Row w' pa l :=
  ⟨h.1, h.2.1, fun hl => by
    obtain ⟨g, off, e, hg, hh⟩ := h.2.2 hl
    exact ⟨g, off, e, Nat.lt_of_lt_of_le hg hb.size, hh.below hb (Nat.lt_of_lt_of_le hg hB)⟩⟩
def vC (coin : Int) (pa : Option Addr) (n c : Nat) : Array Value := #[.int .i64 coin, .slice pa n c]
def rightB (coin : Int) (l : List As) : Bool := decide (0 ≤ coin) && decide (l.length ≤ 30) && wellB isPos l
theorem wellPos (w : World) (pa : Option Addr) (l : List As) (c : Nat) (h : Row w pa l) :
    Calls Tryz.prog 130 #[.slice pa l.length c, .func (.func 131) #[] #[], .func (.func 129) #[] #[]] w fun e w' => e = .returned (.bool (wellB isPos l)) ∧ Below w.heap.size w w' :=
  well_any 129 isPos enterPos (fun w a ha => isPos_any w a ha) w pa l c h.1 (fun a ha => ⟨(h.2.1 a ha).1, (h.2.1 a ha).2.1⟩) h.2.2
set_option maxHeartbeats 1000000 in
theorem right_any (w : World) (coin : Int) (pa : Option Addr) (l : List As) (c : Nat) (h : Row w pa l) :
    Calls Tryz.prog 63 #[.agg (vC coin pa l.length c)] w fun e w' => e = .returned (.bool (rightB coin l)) ∧ Below w.heap.size w w' := by
  have hn : (l.length : Int) ≤ 9223372036854775807 := by have := h.1; unfold maxLen at this; omega
  have hb1 : Below w.heap.size w (w.alloc (.cells (vC coin pa l.length c) 27)) := (Below.refl _ _).alloc (Nat.le_refl _) _
  have hL : Lies (w.alloc (.cells (vC coin pa l.length c) 27)) w.heap.size (vC coin pa l.length c) 27 := Lies.new _ _ _
  have hC := wellPos _ pa l c (h.below hb1 (Nat.le_refl _))
  have H := Lib.hid (And.intro hC hb1)
  have c0 := hL.cell 0 (v := .int .i64 coin) rfl
  have c1 := hL.cell 1 (v := .slice pa l.length c) rfl
  clear h hC hb1 hL
  unfold vC
  unfold vC at H c0 c1
  go_enter Tryz.func63, Tryz.ntmps63
  by_cases hc : 0 ≤ coin
  · by_cases h30 : l.length ≤ 30
    · have m30 : (l.length : Int) ≤ 30 := by omega
      have HV := Lib.hid (show rightB coin l = wellB isPos l by unfold rightB; simp [hc, h30])
      go_wp2_with fail
      refine H.out.1.mono ?_
      rintro e w2 ⟨rfl, hb2⟩
      go_wp2_with fail
      go_ret
      refine ⟨?_, H.out.2.trans (hb2.mono H.out.2.size)⟩
      rw [HV.out]
      rfl
    · have m30 : ¬ (l.length : Int) ≤ 30 := by omega
      have HV := Lib.hid (show rightB coin l = false by unfold rightB; simp [h30])
      go_wp2_with fail
      go_ret
      refine ⟨?_, H.out.2⟩
      rw [HV.out]
      rfl
  · have HV := Lib.hid (show rightB coin l = false by unfold rightB; simp [hc])
    go_wp2_with fail
    go_ret
    refine ⟨?_, H.out.2⟩
    rw [HV.out]
    rfl
end Go.Proofs.YtilbbemdinpjcaaGreat
namespace Go.Proofs.YtilbbemdinpjcaaGreat
set_option maxRecDepth 100000
open Go.RowKit Go.Sort

theorem Row.at {w : World} {g off : Nat} {l : List As} {i : Nat} {a : As} (h : HasA w g off l) (ha : l[i]? = some a) : w.rangeAt g (off + i * 34) (asC a).toList := h i a ha
set_option maxHeartbeats 4000000 in
theorem same_any (w : World) (pa pb : Option Addr) (l m : List As) (c e : Nat) (hl : Row w pa l) (hm : Row w pb m) :
    Calls Tryz.prog 79 #[.slice pa l.length c, .slice pb m.length e] w fun e w' => e = .returned (.bool (decide (l = m))) ∧ Below w.heap.size w w' := by
  have hli : (l.length : Int) ≤ 9223372036854775807 := by have := hl.1; unfold maxLen at this; omega
  have hmi : (m.length : Int) ≤ 9223372036854775807 := by have := hm.1; unfold maxLen at this; omega
  have HS := Lib.hid (And.intro hl hm)
  clear hl hm
  by_cases hlen : l.length = m.length
  · rw [hlen]
    have HL := Lib.hid hlen
    clear hlen
    go_enter Tryz.func79, Tryz.ntmps79
    go_wp2_with fail
    go_loopw [5] (fun i W => ∃ k : Nat, k ≤ m.length ∧ i = .int .i64 k ∧ Below w.heap.size w W ∧ ∀ i, i < k → l[i]? = m[i]?) (fun i _ => m.length - (intOf i).toNat)
    case atStart => exact ⟨0, Nat.zero_le _, rfl, Below.refl _ _, fun i hi => absurd hi (by omega)⟩
    case round =>
      obtain ⟨k, hk, rfl, hb, hall⟩ := hrel
      have hlen := HL.out
      by_cases hlt : k < m.length
      · have m1 : (k : Int) < (m.length : Int) := by omega
        have m0 : (0 : Int) ≤ (k : Int) := by omega
        obtain ⟨g, off, rfl, hg, hh⟩ := HS.out.1.2.2 (by omega)
        obtain ⟨g', off', rfl, hg', hh'⟩ := HS.out.2.2.2 (by omega)
        obtain ⟨a, ha⟩ : ∃ a, a = l[k] := ⟨_, rfl⟩
        obtain ⟨b, hb'⟩ : ∃ b, b = m[k] := ⟨_, rfl⟩
        have hka : l[k]? = some a := by rw [ha, List.getElem?_eq_getElem (by omega)]
        have hkb : m[k]? = some b := by rw [hb', List.getElem?_eq_getElem hlt]
        have oka := HS.out.1.2.1 a (List.mem_of_getElem? hka)
        have okb := HS.out.2.2.1 b (List.mem_of_getElem? hkb)
        obtain ⟨va, hva⟩ : ∃ v, v = asC a := ⟨_, rfl⟩
        obtain ⟨vb, hvb⟩ : ∃ v, v = asC b := ⟨_, rfl⟩
        have hvs : va.size = 34 := by rw [hva]; exact asC_size a oka.1
        have hvt : vb.size = 34 := by rw [hvb]; exact asC_size b okb.1
        have heq : ∀ W, (Op.equalIn 10000 146 (.agg va) (.agg vb)).run Tryz.prog W = .ok (decide (a = b)) W := fun W => by rw [hva, hvb]; exact eq_as W a b oka okb
        have HR1 : Hid (∀ W, Below w.heap.size w W → W.rangeAt g (off + k * 34) va.toList ∧ W.rangeAt g' (off' + k * 34) vb.toList) := Lib.hid fun W hW => by
          rw [hva, hvb]
          exact ⟨(hh.below hW hg) k a hka, (hh'.below hW hg') k b hkb⟩
        have HR := Lib.hid (And.intro hb (And.intro hall (And.intro hlt (And.intro hka (And.intro hkb (And.intro hvs hvt))))))
        have HI := Lib.hid (And.intro (show (Tryz.prog.info? 146).map (·.size) = some va.size by rw [hvs]; exact info_asset) (show (Tryz.prog.info? 146).map (·.size) = some vb.size by rw [hvt]; exact info_asset))
        clear hlen hb hall hlt hk ha hb' hka hkb oka okb hva hvb hvs hvt hh hh' hg hg'
        go_upto_region 6 with fail
        refine wp_region_noPanic (wp_region_held (S := fun V => V.rangeAt g (off + k * 34) va.toList ∧ V.rangeAt g' (off' + k * 34) vb.toList) (by kernel_rfl) ?_)
        change wpAnyH _ _ _ _ _ 9 _ _ (World.drew wr)
        have hcur := HR1.out _ HR.out.1.drew
        have hbd : Below w.heap.size w wr.drew := HR.out.1.drew
        have HBD := Lib.hid hbd
        clear hbd
        by_cases hab : a = b
        · have hd : decide (a = b) = true := by simp [hab]
          have HAB := Lib.hid hab
          clear hab
          refine tk 0 (.slice (some ⟨g, off, none⟩) m.length c) 17 rfl rfl hcur ?_
          refine tk 1 (.int .i64 k) 18 rfl rfl hcur ?_
          refine tk 2 (.pointer (some ⟨g, off + k * 34, none⟩)) 19 rfl rfl hcur ?_ (by intro w' hS'; unfold execOp; simp [go_sem, m0, m1])
          refine tk 3 (.agg va) 20 rfl rfl hcur ?_ (by intro w' hS'; exact exec_loadM 146 _ rfl _ _ rfl va hS'.1 Tryz.underlying146 rfl HI.out.1)
          refine tk 4 (.slice (some ⟨g', off', none⟩) m.length e) 21 rfl rfl hcur ?_
          refine tk 5 (.int .i64 k) 22 rfl rfl hcur ?_
          refine tk 6 (.pointer (some ⟨g', off' + k * 34, none⟩)) 23 rfl rfl hcur ?_ (by intro w' hS'; unfold execOp; simp [go_sem, m0, m1])
          refine tk 7 (.agg vb) 24 rfl rfl hcur ?_ (by intro w' hS'; exact exec_loadM 146 _ rfl _ _ rfl vb hS'.2 Tryz.underlying146 rfl HI.out.2)
          refine tk 8 (.bool false) 25 rfl rfl hcur ?_ (by intro w' hS'; unfold execOp; simp [go_sem, heq, hd])
          refine wpAnyH_done (by kernel_rfl) ?_ _
          unfold NoPanic
          dsimp only
          clear hcur heq hd
          go_wp2_with fail
          have e1 : (k : Int) + 1 = ((k + 1 : Nat) : Int) := by omega
          rw [e1]
          refine ⟨⟨k + 1, HR.out.2.2.1, rfl, HBD.out, fun i hi => ?_⟩, ?_⟩
          · by_cases e : i = k
            · rw [e, HR.out.2.2.2.1, HR.out.2.2.2.2.1, HAB.out]
            · exact HR.out.2.1 i (by omega)
          · have h := HR.out.2.2.1
            show m.length - (k + 1) < m.length - k
            omega
        · have hd : decide (a = b) = false := by simp [hab]
          have HAB := Lib.hid (show l ≠ m from fun e => hab (by
            have h1 := HR.out.2.2.2.1
            rw [e, HR.out.2.2.2.2.1] at h1
            exact (Option.some.inj h1).symm))
          clear hab
          refine tk 0 (.slice (some ⟨g, off, none⟩) m.length c) 17 rfl rfl hcur ?_
          refine tk 1 (.int .i64 k) 18 rfl rfl hcur ?_
          refine tk 2 (.pointer (some ⟨g, off + k * 34, none⟩)) 19 rfl rfl hcur ?_ (by intro w' hS'; unfold execOp; simp [go_sem, m0, m1])
          refine tk 3 (.agg va) 20 rfl rfl hcur ?_ (by intro w' hS'; exact exec_loadM 146 _ rfl _ _ rfl va hS'.1 Tryz.underlying146 rfl HI.out.1)
          refine tk 4 (.slice (some ⟨g', off', none⟩) m.length e) 21 rfl rfl hcur ?_
          refine tk 5 (.int .i64 k) 22 rfl rfl hcur ?_
          refine tk 6 (.pointer (some ⟨g', off' + k * 34, none⟩)) 23 rfl rfl hcur ?_ (by intro w' hS'; unfold execOp; simp [go_sem, m0, m1])
          refine tk 7 (.agg vb) 24 rfl rfl hcur ?_ (by intro w' hS'; exact exec_loadM 146 _ rfl _ _ rfl vb hS'.2 Tryz.underlying146 rfl HI.out.2)
          refine tk 8 (.bool true) 25 rfl rfl hcur ?_ (by intro w' hS'; unfold execOp; simp [go_sem, heq, hd])
          refine wpAnyH_done (by kernel_rfl) ?_ _
          unfold NoPanic
          dsimp only
          clear hcur heq hd
          go_wp2_with fail
          go_ret
          refine ⟨?_, HBD.out⟩
          rw [decide_eq_false HAB.out]
          rfl
      · have e1 : k = m.length := by omega
        have HF := Lib.hid (And.intro hb (show l = m from List.ext_getElem? fun i => by
          by_cases hi : i < k
          · exact hall i hi
          · rw [List.getElem?_eq_none (by omega), List.getElem?_eq_none (by omega)]))
        have m1 : ¬ (k : Int) < (m.length : Int) := by omega
        clear hb hall e1 hk hlt hlen
        go_wp2_with fail
        go_ret
        refine ⟨?_, HF.out.1⟩
        rw [decide_eq_true HF.out.2]
        rfl
  · have hne : ¬ (l.length : Int) = (m.length : Int) := by omega
    have HN := Lib.hid (show l ≠ m from fun e => hlen (by rw [e]))
    clear hlen
    go_enter Tryz.func79, Tryz.ntmps79
    go_wp2_with fail
    go_ret
    refine ⟨?_, Below.refl _ _⟩
    rw [decide_eq_false HN.out]
    rfl
def sameB (x y : Int) (l m : List As) : Bool := decide (x = y) && decide (l = m)
set_option maxHeartbeats 1000000 in
theorem sameV_any (w : World) (x y : Int) (pa pb : Option Addr) (l m : List As) (c e : Nat) (hl : Row w pa l) (hm : Row w pb m) :
    Calls Tryz.prog 80 #[.agg (vC x pa l.length c), .agg (vC y pb m.length e)] w fun e w' => e = .returned (.bool (sameB x y l m)) ∧ Below w.heap.size w w' := by
  have hli : (l.length : Int) ≤ 9223372036854775807 := by have := hl.1; unfold maxLen at this; omega
  have hmi : (m.length : Int) ≤ 9223372036854775807 := by have := hm.1; unfold maxLen at this; omega
  have hb1 : Below w.heap.size w ((w.alloc (.cells (vC x pa l.length c) 27)).alloc (.cells (vC y pb m.length e) 27)) := ((Below.refl _ _).alloc (Nat.le_refl _) _).alloc (by simp) _
  have hL1 : Lies ((w.alloc (.cells (vC x pa l.length c) 27)).alloc (.cells (vC y pb m.length e) 27)) w.heap.size (vC x pa l.length c) 27 := (Lies.new _ _ _).alloc _
  have hL2 : Lies ((w.alloc (.cells (vC x pa l.length c) 27)).alloc (.cells (vC y pb m.length e) 27)) (w.heap.size + 1) (vC y pb m.length e) 27 := by
    have := Lies.new (w.alloc (.cells (vC x pa l.length c) 27)) (vC y pb m.length e) 27
    simpa using this
  have hC := same_any _ pa pb l m c e (hl.below hb1 (Nat.le_refl _)) (hm.below hb1 (Nat.le_refl _))
  have H := Lib.hid (And.intro hC hb1)
  have c0 := hL1.cell 0 (v := .int .i64 x) rfl
  have c1 := hL1.cell 1 (v := .slice pa l.length c) rfl
  have d0 := hL2.cell 0 (v := .int .i64 y) rfl
  have d1 := hL2.cell 1 (v := .slice pb m.length e) rfl
  clear hl hm hC hb1 hL1 hL2
  unfold vC
  unfold vC at H c0 c1 d0 d1
  go_enter Tryz.func80, Tryz.ntmps80
  by_cases hxy : x = y
  · have HV := Lib.hid (show sameB x y l m = decide (l = m) by unfold sameB; simp [hxy])
    subst hxy
    go_wp2_with fail
    refine H.out.1.mono ?_
    rintro e w2 ⟨rfl, hb2⟩
    go_wp2_with fail
    go_ret
    refine ⟨?_, H.out.2.trans (hb2.mono H.out.2.size)⟩
    rw [HV.out]
    rfl
  · have HV := Lib.hid (show sameB x y l m = false by unfold sameB; simp [hxy])
    go_wp2_with fail
    go_ret
    refine ⟨?_, H.out.2⟩
    rw [HV.out]
    rfl
end Go.Proofs.YtilbbemdinpjcaaGreat
namespace Go.Proofs.YtilbbemdinpjcaaGreat
set_option maxRecDepth 100000
open Go.RowKit Go.Sort

set_option maxHeartbeats 4000000 in
theorem assetsOf_any (w : World) (pa : Option Addr) (l : List As) (c : Nat) (lim : Int) (h : Row w pa l) :
    Calls Tryz.prog 42 #[.slice pa l.length c, .int .i64 lim] w fun e w' => (∃ n, e = .returned (.int .i64 n)) ∧ Below w.heap.size w w' := by
  have hli : (l.length : Int) ≤ 9223372036854775807 := by have := h.1; unfold maxLen at this; omega
  have H := Lib.hid h
  clear h
  go_enter Tryz.func42, Tryz.ntmps42
  go_wp2_with fail
  go_loopw [5, 6] (fun s i W => ∃ (k : Nat) (n : Int), k ≤ l.length ∧ s = .int .i64 n ∧ i = .int .i64 k ∧ Below w.heap.size w W) (fun _ i _ => l.length - (intOf i).toNat)
  case atStart => exact ⟨0, 0, Nat.zero_le _, rfl, rfl, Below.refl _ _⟩
  case round =>
    obtain ⟨k, n, hk, rfl, rfl, hb⟩ := hrel
    by_cases hlt : k < l.length
    · have m1 : (k : Int) < (l.length : Int) := by omega
      have m0 : (0 : Int) ≤ (k : Int) := by omega
      by_cases hn : n ≤ lim
      · obtain ⟨g, off, rfl, hg, hh⟩ := H.out.2.2 (by omega)
        obtain ⟨a, ha⟩ : ∃ a, a = l[k] := ⟨_, rfl⟩
        have hka : l[k]? = some a := by rw [ha, List.getElem?_eq_getElem hlt]
        have oka := H.out.2.1 a (List.mem_of_getElem? hka)
        have c32 := (hh.below hb hg) k a hka 32 (.string (txt a.nm.2)) (by rw [Array.getElem?_toList]; exact asC_txt a oka.1)
        have hts := txt_size a.nm.2
        have ht := oka.2.1
        have HR := Lib.hid (And.intro hb hlt)
        generalize txt a.nm.2 = tv at c32 hts
        have hti : (tv.size : Int) ≤ 9223372036854775807 := by unfold maxLen at ht; omega
        clear ha hka oka hg hh hb hlt hk hts ht
        go_wp2_with fail
        have e1 : (k : Int) + 1 = ((k + 1 : Nat) : Int) := by omega
        rw [e1]
        refine ⟨⟨k + 1, _, HR.out.2, rfl, rfl, HR.out.1⟩, ?_⟩
        have h := HR.out.2
        show l.length - (k + 1) < l.length - k
        omega
      · have HB := Lib.hid hb
        clear hb hlt hk
        go_wp2_with fail
        go_ret
        exact ⟨⟨n, rfl⟩, HB.out⟩
    · have m1 : ¬ (k : Int) < (l.length : Int) := by omega
      have HB := Lib.hid hb
      clear hb hlt hk
      go_wp2_with fail
      go_ret
      exact ⟨⟨n, rfl⟩, HB.out⟩
set_option maxHeartbeats 1000000 in
theorem valueOf_any (w : World) (x : Int) (pa : Option Addr) (l : List As) (c : Nat) (lim : Int) (h : Row w pa l) :
    Calls Tryz.prog 43 #[.agg (vC x pa l.length c), .int .i64 lim] w fun e w' => (∃ n, e = .returned (.int .i64 n)) ∧ Below w.heap.size w w' := by
  have hli : (l.length : Int) ≤ 9223372036854775807 := by have := h.1; unfold maxLen at this; omega
  have hb1 : Below w.heap.size w (w.alloc (.cells (vC x pa l.length c) 27)) := (Below.refl _ _).alloc (Nat.le_refl _) _
  have hL : Lies (w.alloc (.cells (vC x pa l.length c) 27)) w.heap.size (vC x pa l.length c) 27 := Lies.new _ _ _
  have hC := assetsOf_any _ pa l c lim (h.below hb1 (Nat.le_refl _))
  have H := Lib.hid (And.intro hC hb1)
  have c0 := hL.cell 0 (v := .int .i64 x) rfl
  have c1 := hL.cell 1 (v := .slice pa l.length c) rfl
  clear h hC hb1 hL
  unfold vC
  unfold vC at H c0 c1
  go_enter Tryz.func43, Tryz.ntmps43
  go_wp2_with fail
  refine H.out.1.mono ?_
  rintro e w2 ⟨⟨n, rfl⟩, hb2⟩
  have HB := Lib.hid (H.out.2.trans (hb2.mono H.out.2.size))
  clear hb2 c0 c1
  go_wp2_with fail
  go_ret
  exact ⟨⟨_, rfl⟩, HB.out⟩
/-- A bundle: its number, its row. -/
structure Va where
  coin : Int
  pa : Option Addr
  l : List As
  c : Nat
def vaC (v : Va) : Array Value := vC v.coin v.pa v.l.length v.c
theorem vaC_size (v : Va) : (vaC v).size = 2 := rfl
theorem vaC_one (v : Va) : (vaC v).all (·.oneCell') = true := by simp [vaC, vC, Value.oneCell']
theorem info_value : (Tryz.prog.info? 27).map (·.size) = some 2 := by kernel_rfl
/-- The number has 64 bits, the row lies in memory. -/
def VaOk (w : World) (v : Va) : Prop := -9223372036854775808 ≤ v.coin ∧ v.coin < 9223372036854775808 ∧ Row w v.pa v.l
/-- Bundles lie one behind the other. -/
def HasV (w : World) (g off : Nat) (vs : List Va) : Prop := ∀ (i : Nat) (v : Va), vs[i]? = some v → w.rangeAt g (off + i * 2) (vaC v).toList ∧ VaOk w v
theorem HasV.below {B : Nat} {w w' : World} {g off : Nat} {vs : List Va} (h : HasV w g off vs) (hb : Below B w w') (hg : g < B) (hB : w.heap.size ≤ B) : HasV w' g off vs :=
  fun i v hi => ⟨fun j x hj => (hb.cell (p := ⟨g, off + i * 2 + j, none⟩) hg).trans ((h i v hi).1 j x hj), (h i v hi).2.1, (h i v hi).2.2.1, (h i v hi).2.2.2.below hb hB⟩
def RowV (w : World) (pa : Option Addr) (vs : List Va) : Prop := vs.length ≤ maxLen ∧ (0 < vs.length → ∃ g off, pa = some ⟨g, off, none⟩ ∧ g < w.heap.size ∧ HasV w g off vs)
theorem RowV.below {B : Nat} {w w' : World} {pa : Option Addr} {vs : List Va} (h : RowV w pa vs) (hb : Below B w w') (hB : w.heap.size ≤ B) : RowV w' pa vs :=
  ⟨h.1, fun hl => by
    obtain ⟨g, off, e, hg, hh⟩ := h.2 hl
    exact ⟨g, off, e, Nat.lt_of_lt_of_le hg hb.size, hh.below hb (Nat.lt_of_lt_of_le hg hB) hB⟩⟩
/-- A row of bundles: where, which, its room. -/
structure Vr where
  pa : Option Addr
  vs : List Va
  c : Nat
def RowR (w : World) (pa : Option Addr) (rs : List Vr) : Prop := rs.length ≤ maxLen ∧ (0 < rs.length → ∃ g off, pa = some ⟨g, off, none⟩ ∧ g < w.heap.size ∧ ∀ (i : Nat) (r : Vr), rs[i]? = some r → w.cell? ⟨g, off + i, none⟩ = some (.slice r.pa r.vs.length r.c) ∧ RowV w r.pa r.vs)
def SomeB (e : Ending) : Prop := ∃ b, e = .returned (.bool b)
end Go.Proofs.YtilbbemdinpjcaaGreat
namespace Go.Proofs.YtilbbemdinpjcaaGreat
set_option maxRecDepth 100000
open Go.RowKit Go.Sort

theorem info_wide : (Tryz.prog.info? 148).map (·.size) = some 2 := by kernel_rfl
end Go.Proofs.YtilbbemdinpjcaaGreat
namespace Go.Proofs.YtilbbemdinpjcaaGreat
set_option maxRecDepth 100000
open Go.RowKit Go.Sort

/-- A panic of the library's own error, of some number. -/
def Fault (e : Ending) : Prop := ∃ n, e = .panicked [{ v := .iface 64 (.int .i64 n), recovered := false }]
def rightV (v : Va) : Bool := rightB v.coin v.l
def Musts (vs : List Va) (e : Ending) : Prop := (vs.all rightV = true ∧ ∃ v, e = .returned v) ∨ (vs.all rightV = false ∧ Fault e)
def Amounts (x : BitVec 128) (e : Ending) : Prop := (fitsW x = true ∧ e = .returned (.int .i64 x.toNat)) ∨ (fitsW x = false ∧ Fault e)
end Go.Proofs.YtilbbemdinpjcaaGreat
namespace Go.Proofs.YtilbbemdinpjcaaGreat.P
set_option maxRecDepth 100000
open Go.RowKit Go.Sort

/-- It is so, and nothing is told; or it is not, and the code's own error is thrown. -/
def Must (b : Bool) (e : Ending) : Prop := (b = true ∧ e = .returned (.tuple #[])) ∨ (b = false ∧ Fault e)
def bools (bs : List Bool) : Array Value := (bs.map Value.bool).toArray
theorem bools_size (bs : List Bool) : (bools bs).size = bs.length := by simp [bools]
theorem bools_get {bs : List Bool} {k : Nat} {b : Bool} (h : bs[k]? = some b) : (bools bs)[k]? = some (.bool b) := by simp [bools, h]
theorem below_setCell {B : Nat} {a w : World} (h : Below B a w) (p : Addr) (v : Value) (hp : B ≤ p.block) : Below B a (w.setCell p v) := h.trans ⟨rfl, rfl, rfl, by rw [size_set]; exact Nat.le_refl _, fun k hk => heap_setCell_other w p k v (by omega)⟩
theorem held_done {P : Program} {ops : Array Oper} {Q : Exit → Act → World → Prop} {md : Region.Mode} {S : World → Prop} {fuel : Nat} {listed : Array Bool} {a : Act} {w : World} (hr : Region.ready md ops listed = []) (h : Q .normal a w) : wpAnyH P md ops Q S fuel listed a w := by
  cases fuel with
  | zero => exact ⟨hr, h⟩
  | succ f => exact ⟨fun _ => h, fun i hi => by rw [hr] at hi; cases hi⟩
def IndexRes (bs : List Bool) (e : Ending) : Prop := ∃ z : Int, e = .returned (.int .i64 z) ∧ ((bs.all id = true ∧ z = -1) ∨ (bs.all id = false ∧ 0 ≤ z))
theorem all_cut {bs : List Bool} {k : Nat} (h : ∀ i, i < k → bs[i]? = some true) (hk : bs.length ≤ k) : bs.all id = true := by
  rw [List.all_eq_true]
  intro b hb
  obtain ⟨i, hi, e⟩ := List.getElem_of_mem hb
  have h1 := h i (by omega)
  rw [List.getElem?_eq_getElem hi, e] at h1
  exact Option.some.inj h1
set_option maxHeartbeats 2000000 in
theorem index_any (w : World) (g c : Nat) (t : TypeId) (bs : List Bool) (h : Lies w g (bools bs) t) (hl : bs.length ≤ 1000) :
    Calls Tryz.prog 204 #[.slice (some ⟨g, 0, none⟩) bs.length c, .bool false] w fun e w' => IndexRes bs e ∧ Below w.heap.size w w' := by
  obtain ⟨N, hN⟩ : ∃ N, N = bs.length := ⟨_, rfl⟩
  have hNi : (N : Int) ≤ 1000 := by omega
  have HC : Hid (∀ V, Below w.heap.size w V → ∀ (k : Nat) b, bs[k]? = some b → V.cell? ⟨g, k, none⟩ = some (.bool b)) := Lib.hid fun V hV k b hb => (h.below hV h.lt).cell k (bools_get hb)
  rw [← hN]
  have HN := Lib.hid hN
  clear h hl hN
  go_enter Tryz.func204, Tryz.ntmps204
  go_wp2_with fail
  go_loopw [8] (fun i W => ∃ k : Nat, k ≤ N ∧ i = .int .i64 k ∧ Below w.heap.size w W ∧ ∀ i, i < k → bs[i]? = some true) (fun i _ => N - (intOf i).toNat)
  case atStart => exact ⟨0, Nat.zero_le _, rfl, Below.refl _ _, fun i hi => absurd hi (by omega)⟩
  case round =>
    obtain ⟨k, hk, rfl, hb, hall⟩ := hrel
    have m0 : (0 : Int) ≤ (k : Int) := by omega
    by_cases hlt : k < N
    · have m1 : (k : Int) < (N : Int) := by omega
      have hNl := HN.out
      obtain ⟨b, hkb⟩ : ∃ b, bs[k]? = some b := ⟨bs[k]'(by omega), List.getElem?_eq_getElem _⟩
      have c0 := HC.out wr hb k b hkb
      have HR := Lib.hid (And.intro hb (And.intro hall (And.intro hkb hlt)))
      clear hb hall hkb hlt hk hNl
      cases b with
      | true =>
        go_wp2_with fail
        refine ⟨⟨k + 1, HR.out.2.2.2, by go_num, HR.out.1, fun i hi => ?_⟩, ?_⟩
        · by_cases e : i = k
          · rw [e]; exact HR.out.2.2.1
          · exact HR.out.2.1 i (by omega)
        · have := HR.out.2.2.2; simp [intOf]; omega
      | false =>
        go_wp2_with fail
        go_ret
        refine ⟨⟨k, rfl, .inr ⟨?_, m0⟩⟩, HR.out.1⟩
        rw [← Bool.not_eq_true, List.all_eq_true]
        intro h
        exact absurd (h false (List.mem_of_getElem? HR.out.2.2.1)) (by simp)
    · have m1 : ¬ (k : Int) < (N : Int) := by omega
      have HE := Lib.hid (And.intro hb (all_cut hall (by have := HN.out; omega)))
      clear hb hall hlt hk
      go_wp2_with fail
      go_ret
      exact ⟨⟨-1, rfl, .inl ⟨HE.out.2, rfl⟩⟩, HE.out.1⟩
theorem contains_any (w : World) (g c : Nat) (t : TypeId) (bs : List Bool) (h : Lies w g (bools bs) t) (hl : bs.length ≤ 1000) :
    Calls Tryz.prog 128 #[.slice (some ⟨g, 0, none⟩) bs.length c, .bool false] w fun e w' => e = .returned (.bool (!bs.all id)) ∧ Below w.heap.size w w' := by
  have HI := Lib.hid (index_any w g c t bs h hl)
  clear h hl
  go_enter Tryz.func128, Tryz.ntmps128
  go_wp2_with fail
  refine HI.out.mono ?_
  rintro e w1 ⟨⟨z, rfl, hz⟩, hb⟩
  have HB := Lib.hid hb
  clear hb
  rcases hz with ⟨ha, rfl⟩ | ⟨ha, hz⟩
  · go_wp2_with fail
    go_ret
    exact ⟨by rw [ha]; rfl, HB.out⟩
  · go_wp2_with fail
    go_ret
    exact ⟨by rw [ha]; rfl, HB.out⟩
theorem must_any (w : World) (g c : Nat) (t : TypeId) (bs : List Bool) (h : Lies w g (bools bs) t) (hl : bs.length ≤ 1000) :
    Calls Tryz.prog 62 #[.slice (some ⟨g, 0, none⟩) bs.length c] w fun e w' => Must (bs.all id) e ∧ Below w.heap.size w w' := by
  have hi := contains_any w g c t bs h hl
  obtain ⟨b, hb⟩ : ∃ b, b = bs.all id := ⟨_, rfl⟩
  rw [← hb] at hi ⊢
  clear h hl hb
  have HI := Lib.hid hi
  clear hi
  go_enter Tryz.func62, Tryz.ntmps62
  go_wp2_with fail
  refine HI.out.mono ?_
  rintro e w1 ⟨rfl, hb⟩
  have HB := Lib.hid hb
  clear hb HI
  cases b with
  | true =>
    go_wp2_with fail
    go_end0
    exact ⟨.inl ⟨rfl, rfl⟩, HB.out⟩
  | false =>
    go_wp2_with fail
    exact ⟨rfl, .inr ⟨rfl, 4, rfl⟩, HB.out⟩
end Go.Proofs.YtilbbemdinpjcaaGreat.P
namespace Go.Proofs.YtilbbemdinpjcaaGreat.P
set_option maxRecDepth 100000
open Go.RowKit Go.Sort

theorem met1_panicking (p : Addr) (u : TypeId) (pv x : Value) (older : List PanicEntry) (w : World) (h0 : w.cell? p = some x) (f0 : w.frozen? p = false) :
    CallsD Tryz.prog 127 #[.pointer (some p)] (.panicking ({ v := .iface u pv, recovered := false } :: older)) w fun e u' w' =>
      e = .returned (.tuple #[]) ∧ u' = .panicking ({ v := .iface u pv, recovered := true } :: older) ∧ w' = w.setCell p (.bool false) := by
  refine callsD_of_wpS Tryz.func127 rfl fun c₀ cs hu => ?_
  apply wpS_seq
  apply wpS_region
  simp [wpOpsS, go_sem, recoverD, hu, Tryz.ntmps127, Exit.thenS]
  refine wpS_cond (t := true) (by simp [Act.eval, Array.replicate]) ?_
  simp only [if_true]
  apply wpS_region
  simp [wpOpsS, go_sem, h0, f0, bodyPostS, results, Tryz.results127]
theorem met1_idle (p : Addr) (w : World) :
    CallsD Tryz.prog 127 #[.pointer (some p)] .returning w fun e u' w' => e = .returned (.tuple #[]) ∧ u' = .returning ∧ w' = w := by
  refine callsD_of_wpS Tryz.func127 rfl fun c₀ cs hu => ?_
  apply wpS_seq
  apply wpS_region
  simp [wpOpsS, go_sem, recoverD, hu, Tryz.ntmps127, Exit.thenS]
  refine wpS_cond (t := false) (by simp [Act.eval, Array.replicate]) ?_
  simp only [Bool.false_eq_true, if_false]
  refine wpS_of_wp (wp_skip ?_)
  cases c₀
  simp_all [bodyPostS, results, Tryz.results127]
set_option maxHeartbeats 4000000 in
theorem met_any (w : World) (K : Nat) (cap : Array Value) (b : Bool)
    (hK : ∀ w : World, (callFunc K cap).run Tryz.prog w = .ok (.enter K cap) w) (hbe : ∀ w1, Below w.heap.size w w1 → Calls Tryz.prog K cap w1 fun e w2 => Must b e ∧ Below w1.heap.size w1 w2) :
    Calls Tryz.prog 60 #[.func (Fn.func K) #[] cap] w fun e w' => e = .returned (.bool b) ∧ Below w.heap.size w w' := by
  have hmf : ∀ (fn : Fn) (first cap : Array Value) (w : World), (Instr.makeFunc fn first cap).run Tryz.prog w = .ok (.func fn first cap) w := fun _ _ _ _ => rfl
  have hb : Below w.heap.size w (w.alloc (.cells #[.bool false] 4)) := (Below.refl _ _).alloc (Nat.le_refl _) _
  have hl0 : Lies (w.alloc (.cells #[.bool false] 4)) w.heap.size #[.bool false] 4 := Lies.new _ _ _
  have hc2 := hbe _ hb
  have HC := Lib.hid hc2
  have HB := Lib.hid (And.intro hb hl0)
  clear hb hc2 hbe hl0
  go_enter_defers Tryz.func60, Tryz.ntmps60
  go_wp2_with fail
  refine HC.out.mono ?_
  rintro e w2 ⟨ht, hb2⟩
  have hL0 := HB.out.2.below hb2 HB.out.2.lt
  have hbw := HB.out.1.trans (hb2.mono HB.out.1.size)
  generalize w.alloc (.cells #[.bool false] 4) = W0 at hb2 HB ht ⊢
  have k0 := hL0.cell 0 (v := .bool false) rfl
  have f0 := hL0.free 0
  rcases ht with ⟨rfl, rfl⟩ | ⟨rfl, n, rfl⟩
  · have H2 := Lib.hid (And.intro hL0 hbw)
    clear hL0 hbw hb2
    go_wp2_with fail
    have hL1 := H2.out.1.set 0 (.bool true)
    have hbf := below_setCell H2.out.2 ⟨w.heap.size, 0, none⟩ (.bool true) (Nat.le_refl _)
    generalize w2.setCell ⟨w.heap.size, 0, none⟩ (.bool true) = w3 at hL1 hbf ⊢
    have n0 := hL1.cell 0 (v := .bool true) rfl
    refine leaves_cons (f := 127) (args := #[.pointer (some ⟨w.heap.size, 0, none⟩)]) (by simp) (by simp [go_sem]) ?_
    refine (met1_idle ⟨w.heap.size, 0, none⟩ _).mono ?_
    rintro e u' w'' ⟨rfl, rfl, hw⟩
    subst hw
    have HZ := Lib.hid hbf
    clear hbf hL1 k0 f0
    simp [Leaves, settle, results, Tryz.results60, go_sem, n0]
    exact HZ.out
  · have H2 := Lib.hid (And.intro hL0 hbw)
    clear hL0 hbw hb2
    go_wp2_with fail
    have hL1 := H2.out.1.set 0 (.bool false)
    have hbf := below_setCell H2.out.2 ⟨w.heap.size, 0, none⟩ (.bool false) (Nat.le_refl _)
    refine leaves_cons (f := 127) (args := #[.pointer (some ⟨w.heap.size, 0, none⟩)]) (by simp) (by simp [go_sem]) ?_
    refine (met1_panicking ⟨w.heap.size, 0, none⟩ 64 _ _ [] _ k0 f0).mono ?_
    rintro e u' w'' ⟨rfl, rfl, hw⟩
    rw [hw]
    clear hw
    generalize w2.setCell ⟨w.heap.size, 0, none⟩ (.bool false) = w3 at hL1 hbf ⊢
    have n0 := hL1.cell 0 (v := .bool false) rfl
    have HZ := Lib.hid hbf
    clear hbf hL1 k0 f0
    simp [Leaves, settle, results, Tryz.results60, go_sem, n0]
    exact HZ.out
end Go.Proofs.YtilbbemdinpjcaaGreat.P
