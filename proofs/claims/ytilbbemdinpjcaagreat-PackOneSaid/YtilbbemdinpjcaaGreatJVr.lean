/-
  Is a bundle right? None of its numbers is below what they must be, its names rise.
-/
import Derived.Test.YtilbbemdinpjcaaGreatJVe
import Derived.Deep.Cut
import Derived.Deep.DeepMust
import Derived.IntWalk
import Derived.Deep.WholeRow
set_option maxHeartbeats 16000000
namespace Go.Proofs.YtilbbemdinpjcaaGreat
set_option maxRecDepth 100000
open Go.RowKit Go.Sort
instance : Inhabited As := ⟨⟨([], []), 0⟩⟩
def HasA (w : World) (g off : Nat) (l : List As) : Prop := ∀ i a, l[i]? = some a → w.rangeAt g (off + i * 34) (asC a).toList
theorem HasA.below {B : Nat} {w w' : World} {g off : Nat} {l : List As} (h : HasA w g off l) (hb : Below B w w') (hg : g < B) : HasA w' g off l :=
 fun i a hi j v hv => (hb.cell (p := ⟨g, off + i * 34 + j, none⟩) hg).trans (h i a hi j v hv)
section
variable {P : Program} {ops : Array Oper} {Q : Exit → Act → World → Prop}
theorem wpList_row_want {rest : List Oper} {o : Oper} {a : Act} {w : World} (hw : Region.wanted o (yielded ops a.tmps) = true) (ty : TypeId) (x : Operand) (ho : o.op = .load ty x)
  (g : Nat) (hx : a.eval x = .pointer (some ⟨g, 0, none⟩)) (t : TypeId) (cs : Array Value) (fr : Nat × Nat) (d : TypeDesc) (hg : w.heap[g]? = some (.cells cs t fr))
  (hu : P.underlying ty = some d) (hd : (match d with | .struct _ | .array _ _ => true | _ => false) = true) (hi : (P.info? ty).map (·.size) = some cs.size)
  (h : wpList P ops Q rest (a.put o.dst (.agg cs)) w) : wpList P ops Q (o :: rest) a w :=
 BigFrame.wpList_want hw fun _ hK => wp_load_row ty x ho g hx t cs fr d hg hu hd hi (hK _ _ h)
end
theorem ret_of {P : Program} {f : FuncId} {args : Array Value} {w : World} {v : Value} {B : Nat} {w0 : World} (h : Calls P f args w fun e w' => e = .returned v ∧ Below B w0 w') : Calls P f args w fun e w' => ∃ v2, e = .returned v2 ∧ (v2 = v ∧ Below B w0 w') :=
 h.mono fun _ _ h => ⟨v, h.1, rfl, h.2⟩
theorem txt_size (l : List UInt8) : (txt l).size = l.length := by show l.toArray.size = _; simp
def okAt (p : As → Bool) (l : List As) (i : Nat) : Bool :=
 decide ((l.getD i default).nm.2.length ≤ 32) && p (l.getD i default) && (i == 0 || decide (cN (l.getD (i - 1) default).nm (l.getD i default).nm < 0))
def wellB (p : As → Bool) (l : List As) : Bool := (List.range l.length).all (okAt p l)
theorem well_no {p : As → Bool} {l : List As} {i : Nat} (hi : i < l.length) (h : okAt p l i = false) : wellB p l = false := by
 unfold wellB
 rw [List.all_eq_false]
 exact ⟨i, List.mem_range.2 hi, by rw [h]; simp⟩
theorem well_yes {p : As → Bool} {l : List As} (h : ∀ i, i < l.length → okAt p l i = true) : wellB p l = true := by
 unfold wellB
 rw [List.all_eq_true]
 exact fun i hi => h i (List.mem_range.1 hi)
def z34 : Array Value := ((Array.replicate 32 (.int .u8 0)).push (.string ⟨#[]⟩)).push (.int .i64 0)
theorem well_any (K : Nat) (p : As → Bool) (hK : ∀ args w, (callFunc K args).run Tryz.prog w = .ok (.enter K args) w)
    (hp : ∀ (w : World) (a : As), a.nm.1.length = 32 → Calls Tryz.prog K #[.agg (asC a)] w fun e w' => e = .returned (.bool (p a)) ∧ Below w.heap.size w w')
    (w : World) (pa : Option Addr) (l : List As) (c : Nat) (hl : l.length ≤ maxLen) (hok : ∀ a, a ∈ l → a.nm.1.length = 32 ∧ a.nm.2.length ≤ maxLen)
    (hsrc : 0 < l.length → ∃ g off, pa = some ⟨g, off, none⟩ ∧ g < w.heap.size ∧ HasA w g off l) :
    Calls Tryz.prog 130 #[.slice pa l.length c, .func (.func 131) #[] #[], .func (.func K) #[] #[]] w fun e w' => e = .returned (.bool (wellB p l)) ∧ Below w.heap.size w w' := by
  have hli : (l.length : Int) ≤ 9223372036854775807 := by unfold maxLen at hl; omega
  have HS := Lib.hid (And.intro hsrc hok)
  have HP := Lib.hid hp
  clear hsrc hok hp hl
  go_enter Tryz.func130, Tryz.ntmps130
  go_wp2_with fail
  go_loopw [12] (fun i W => ∃ k : Nat, k ≤ l.length ∧ i = .int .i64 k ∧ Below w.heap.size w W ∧ ∀ i, i < k → okAt p l i = true) (fun i _ => l.length - (intOf i).toNat)
  case atStart => exact ⟨0, Nat.zero_le _, rfl, Below.refl _ _, fun i hi => absurd hi (by omega)⟩
  case round =>
    obtain ⟨k, hk, rfl, hb, hall⟩ := hrel
    by_cases hlt : k < l.length
    · have m1 : (k : Int) < (l.length : Int) := by omega
      have m0 : (0 : Int) ≤ (k : Int) := by omega
      obtain ⟨g, off, rfl, hg, hhas⟩ := HS.out.1 (by omega)
      obtain ⟨a, ha⟩ : ∃ a, a = l[k] := ⟨_, rfl⟩
      have hka : l[k]? = some a := by rw [ha, List.getElem?_eq_getElem hlt]
      have hkd : l.getD k default = a := by rw [List.getD_eq_getElem?_getD, hka]; rfl
      have hao := HS.out.2 a (List.mem_of_getElem? hka)
      have hrg := (hhas.below hb hg) k a hka
      obtain ⟨va, hva⟩ : ∃ v, v = asC a := ⟨_, rfl⟩
      have hvs : va.size = 34 := by rw [hva]; exact asC_size a hao.1
      rw [← hva] at hrg
      have HR := Lib.hid (And.intro hb (And.intro hall (And.intro hlt (And.intro hka (And.intro hkd (And.intro hao (And.intro hva (And.intro hvs (And.intro hg hhas)))))))))
      have HRG := Lib.hid hrg
      clear hb hall hlt hk ha hka hkd hao hrg hva hvs hg hhas
      have eA : ∀ W, Calls Tryz.prog 131 #[.agg va] W fun e w' => e = .returned (.agg (nmC a.nm)) ∧ Below W.heap.size W w' := fun W => by
        rw [HR.out.2.2.2.2.2.2.1]; exact callAsset_any W a HR.out.2.2.2.2.2.1.1
      have HEA := Lib.hid eA
      clear eA
      go_upto_region 4 with (first
        | (refine wpList_load_mid rfl 146 _ rfl g (off + k * 34) rfl va.toList _ HRG.out Tryz.underlying146 rfl (by rw [Array.length_toList, HR.out.2.2.2.2.2.2.2.1]; exact info_asset) ?_)
        | (refine wpList_store_row rfl 146 _ _ rfl wr.heap.size va rfl rfl 146 z34 (Lies.new wr z34 146) (by rw [HR.out.2.2.2.2.2.2.2.1]; exact info_asset) (by rw [HR.out.2.2.2.2.2.2.2.1]; kernel_rfl) (by rw [HR.out.2.2.2.2.2.2.1]; exact asC_one a) ?_))
      rw [World.setRow_alloc_new]
      have hL1 : Lies (wr.alloc (.cells va 146)) wr.heap.size va 146 := Lies.new _ _ _
      have hb1 : Below wr.heap.size wr (wr.alloc (.cells va 146)) := (Below.refl _ _).alloc (Nat.le_refl _) _
      have hs1 : (wr.alloc (.cells va 146)).heap.size = wr.heap.size + 1 := by simp
      generalize wr.alloc (.cells va 146) = W1 at hL1 hb1 hs1 ⊢
      obtain ⟨nv, hnv⟩ : ∃ v, v = nmC a.nm := ⟨_, rfl⟩
      have hns : nv.size = 33 := by rw [hnv]; exact nmC_size a.nm HR.out.2.2.2.2.2.1.1
      have HEA' : Hid (∀ W, Calls Tryz.prog 131 #[.agg va] W fun e w' => e = .returned (.agg nv) ∧ Below W.heap.size W w') := by rw [hnv]; exact HEA
      have H1 := Lib.hid (And.intro hL1 (And.intro hb1 (And.intro hs1 (And.intro hnv hns))))
      clear HEA hL1 hb1 hs1 hnv hns
      go_upto_region 5 with (first
        | (refine wpList_load_row rfl 146 _ rfl wr.heap.size rfl 146 va (0, 0) _ H1.out.1 Tryz.underlying146 rfl (by rw [HR.out.2.2.2.2.2.2.2.1]; exact info_asset) ?_)
        | (go_at_call 131; refine (HEA'.out _).mono ?_; rintro e W2 ⟨rfl, hb2⟩)
        | (refine wpList_store_row rfl 255 _ _ rfl _ nv rfl rfl 255 z33 (Lies.new _ z33 255) (by rw [H1.out.2.2.2.2]; exact info_called) (by rw [H1.out.2.2.2.2]; kernel_rfl) (by rw [H1.out.2.2.2.1]; exact nmC_one a.nm) ?_))
      rw [World.setRow_alloc_new]
      have hpr := HP.out
      obtain ⟨B3, hB3⟩ : ∃ b, b = W2.heap.size := ⟨_, rfl⟩
      have hL3 : Lies (W2.alloc (.cells nv 255)) B3 nv 255 := by rw [hB3]; exact Lies.new _ _ _
      have hb3 : Below wr.heap.size wr (W2.alloc (.cells nv 255)) := H1.out.2.1.trans ((hb2.alloc hb2.size _).mono (by rw [H1.out.2.2.1]; omega))
      have hA3 : Lies (W2.alloc (.cells nv 255)) wr.heap.size va 146 := (H1.out.1.below hb2 H1.out.1.lt).alloc _
      rw [← hB3]
      generalize W2.alloc (.cells nv 255) = W3 at hL3 hb3 hA3 ⊢
      have c32 := hL3.cell 32 (v := .string (txt a.nm.2)) (by rw [H1.out.2.2.2.1]; exact nmC_txt a.nm HR.out.2.2.2.2.2.1.1)
      have hts := txt_size a.nm.2
      generalize txt a.nm.2 = tv at c32 hts
      have htl : (tv.size : Int) ≤ 9223372036854775807 := by have := HR.out.2.2.2.2.2.1.2; unfold maxLen at this; omega
      have H3 := Lib.hid (And.intro hL3 (And.intro hb3 (And.intro hA3 hts)))
      clear hL3 hb3 hA3 hts hB3 hb2 hpr HEA'
      by_cases hlong : 32 < a.nm.2.length
      · have m2 : (32 : Int) < (tv.size : Int) := by rw [H3.out.2.2.2]; omega
        go_wp2_with fail
        go_ret
        refine ⟨?_, HR.out.1.trans (H3.out.2.1.mono HR.out.1.size)⟩
        rw [well_no HR.out.2.2.1 (by unfold okAt; rw [HR.out.2.2.2.2.1]; simp; omega)]
        rfl
      · have m2 : (tv.size : Int) ≤ (32 : Int) := by rw [H3.out.2.2.2]; omega
        have hd : decide ((32 : Int) < (tv.size : Int)) = false := by simp; omega
        have HK := Lib.hid (HP.out W3 a HR.out.2.2.2.2.2.1.1)
        rw [← HR.out.2.2.2.2.2.2.1] at HK
        cases hpa : p a with
        | false =>
          rw [hpa] at HK
          go_wp2_with (first
            | (refine wpList_row_want (by first | kernel_rfl | (rw [hd]; kernel_rfl)) 146 _ rfl wr.heap.size rfl 146 va (0, 0) _ H3.out.2.2.1 Tryz.underlying146 rfl (by rw [HR.out.2.2.2.2.2.2.2.1]; exact info_asset) ?_)
            | (refine HK.out.mono ?_; rintro e W4 ⟨rfl, hb4⟩))
          go_ret
          refine ⟨?_, HR.out.1.trans ((H3.out.2.1.trans (hb4.mono H3.out.2.1.size)).mono HR.out.1.size)⟩
          rw [well_no HR.out.2.2.1 (by unfold okAt; rw [HR.out.2.2.2.2.1, hpa]; simp)]
          rfl
        | true =>
          rw [hpa] at HK
          go_upto_region 7 with (first
            | (refine wpList_row_want (by first | kernel_rfl | (rw [hd]; kernel_rfl)) 146 _ rfl wr.heap.size rfl 146 va (0, 0) _ H3.out.2.2.1 Tryz.underlying146 rfl (by rw [HR.out.2.2.2.2.2.2.2.1]; exact info_asset) ?_)
            | (refine HK.out.mono ?_; rintro e W4 ⟨rfl, hb4⟩))
          have hb4w : Below w.heap.size w W4 := HR.out.1.trans ((H3.out.2.1.trans (hb4.mono H3.out.2.1.size)).mono HR.out.1.size)
          have hL4 : Lies W4 B3 nv 255 := H3.out.1.below hb4 H3.out.1.lt
          have h32 : a.nm.2.length ≤ 32 := by omega
          have H4 := Lib.hid (And.intro hL4 (And.intro hb4w (And.intro h32 hpa)))
          clear hL4 hb4w h32 hpa hb4 HK hd hlong m2 c32 htl
          by_cases hk0 : k = 0
          · have kz : ¬ (0 : Int) < (k : Int) := by omega
            have HOK := Lib.hid (show okAt p l k = true by unfold okAt; rw [HR.out.2.2.2.2.1, H4.out.2.2.2]; simpa [hk0] using H4.out.2.2.1)
            have HK0 := Lib.hid hk0
            clear hk0
            refine wp_region_noPanic (wp_region_held (S := fun V => True) (by kernel_rfl) ?_)
            change wpAnyH _ _ _ _ _ 14 _ _ (World.drew W4)
            have hcur : True := trivial
            refine tk 0 (.int .i64 k) 30 rfl rfl hcur ?_
            refine tk 1 (.bool false) 31 rfl rfl hcur ?_ (by intro w' hS'; unfold execOp; simp [go_sem]; exact HK0.out)
            refine tk 2 (.bool false) 32 rfl rfl hcur ?_
            refine held_skip (i := 3) rfl 33 rfl (by kernel_rfl) (by kernel_rfl) (by kernel_rfl) (fun _ _ _ h => h) (by rfl) hcur _ rfl ?_
            simp only [Act.put, List.setIfInBounds_toArray, List.set_cons_zero, List.set_cons_succ]
            refine held_skip (i := 4) rfl 34 rfl (by kernel_rfl) (by kernel_rfl) (by kernel_rfl) (fun _ _ _ h => h) (by rfl) hcur _ rfl ?_
            simp only [Act.put, List.setIfInBounds_toArray, List.set_cons_zero, List.set_cons_succ]
            refine held_skip (i := 5) rfl 35 rfl (by kernel_rfl) (by kernel_rfl) (by kernel_rfl) (fun _ _ _ h => h) (by rfl) hcur _ rfl ?_
            simp only [Act.put, List.setIfInBounds_toArray, List.set_cons_zero, List.set_cons_succ]
            refine held_skip (i := 6) rfl 36 rfl (by kernel_rfl) (by kernel_rfl) (by kernel_rfl) (fun _ _ _ h => h) (by rfl) hcur _ rfl ?_
            simp only [Act.put, List.setIfInBounds_toArray, List.set_cons_zero, List.set_cons_succ]
            refine held_skip (i := 7) rfl 37 rfl (by kernel_rfl) (by kernel_rfl) (by kernel_rfl) (fun _ _ _ h => h) (by rfl) hcur _ rfl ?_
            simp only [Act.put, List.setIfInBounds_toArray, List.set_cons_zero, List.set_cons_succ]
            refine held_skip (i := 8) rfl 38 rfl (by kernel_rfl) (by kernel_rfl) (by kernel_rfl) (fun _ _ _ h => h) (by rfl) hcur _ rfl ?_
            simp only [Act.put, List.setIfInBounds_toArray, List.set_cons_zero, List.set_cons_succ]
            refine held_skip (i := 9) rfl 39 rfl (by kernel_rfl) (by kernel_rfl) (by kernel_rfl) (fun _ _ _ h => h) (by rfl) hcur _ rfl ?_
            simp only [Act.put, List.setIfInBounds_toArray, List.set_cons_zero, List.set_cons_succ]
            refine held_skip (i := 10) rfl 40 rfl (by kernel_rfl) (by kernel_rfl) (by kernel_rfl) (fun _ _ _ h => h) (by rfl) hcur _ rfl ?_
            simp only [Act.put, List.setIfInBounds_toArray, List.set_cons_zero, List.set_cons_succ]
            refine held_skip (i := 11) rfl 41 rfl (by kernel_rfl) (by kernel_rfl) (by kernel_rfl) (fun _ _ _ h => h) (by rfl) hcur _ rfl ?_
            simp only [Act.put, List.setIfInBounds_toArray, List.set_cons_zero, List.set_cons_succ]
            refine held_skip (i := 12) rfl 42 rfl (by kernel_rfl) (by kernel_rfl) (by kernel_rfl) (fun _ _ _ h => h) (by rfl) hcur _ rfl ?_
            simp only [Act.put, List.setIfInBounds_toArray, List.set_cons_zero, List.set_cons_succ]
            refine tk 13 (.bool false) 43 rfl rfl hcur ?_
            refine wpAnyH_done (by kernel_rfl) ?_ _
            unfold NoPanic
            dsimp only
            clear hcur
            go_wp2_with fail
            have e1 : (k : Int) + 1 = ((k + 1 : Nat) : Int) := by omega
            rw [e1]
            refine ⟨⟨k + 1, HR.out.2.2.1, rfl, H4.out.2.1.trans ((Below.refl _ _).drew.mono H4.out.2.1.size), fun i hi => ?_⟩, ?_⟩
            · by_cases e : i = k
              · rw [e]; exact HOK.out
              · exact HR.out.2.1 i (by omega)
            · have h := HR.out.2.2.1
              show l.length - (k + 1) < l.length - k
              omega
          · obtain ⟨kp, hkp⟩ : ∃ i, i = k - 1 := ⟨_, rfl⟩
            have kpos : (0 : Int) < (k : Int) := by omega
            have ksub : wrap64 ((k : Int) - 1) = (kp : Int) := by unfold wrap64; omega
            have kp0 : (0 : Int) ≤ (kp : Int) := by omega
            have kpl : (kp : Int) < (l.length : Int) := by omega
            have hkpl : kp < l.length := by omega
            obtain ⟨b, hb⟩ : ∃ b, b = l[kp] := ⟨_, rfl⟩
            have hkb : l[kp]? = some b := by rw [hb, List.getElem?_eq_getElem hkpl]
            have hbd' : l.getD (k - 1) default = b := by rw [← hkp, List.getD_eq_getElem?_getD, hkb]; rfl
            have hbo := HS.out.2 b (List.mem_of_getElem? hkb)
            obtain ⟨vb, hvb⟩ : ∃ v, v = asC b := ⟨_, rfl⟩
            obtain ⟨nb, hnb⟩ : ∃ v, v = nmC b.nm := ⟨_, rfl⟩
            obtain ⟨x, hxe⟩ : ∃ x, x = cN b.nm a.nm := ⟨_, rfl⟩
            have hvs : vb.size = 34 := by rw [hvb]; exact asC_size b hbo.1
            have hcall : ∀ W, Calls Tryz.prog 131 #[.agg vb] W fun e w' => e = .returned (.agg nb) ∧ Below W.heap.size W w' := fun W => by
              rw [hvb, hnb]; exact callAsset_any W b hbo.1
            have hord : ∀ W, Calls Tryz.prog 205 #[.agg nb, .agg nv] W fun e w' => e = .returned (.int .i64 x) ∧ Below W.heap.size W w' := fun W => by
              rw [hnb, H1.out.2.2.2.1, hxe]; exact order_any W b.nm a.nm hbo.1 HR.out.2.2.2.2.2.1.1
            have HB := Lib.hid (And.intro hvs (And.intro (show (Tryz.prog.info? 146).map (·.size) = some vb.size by rw [hvs]; exact info_asset) (And.intro (show (Tryz.prog.info? 255).map (·.size) = some nv.size by rw [H1.out.2.2.2.2]; exact info_called) (And.intro hcall hord))))
            have HS7 : Hid (∀ V, Below W4.heap.size W4 V → V.rangeAt g (off + kp * 34) vb.toList ∧ Lies V B3 nv 255) := Lib.hid fun V hV =>
              ⟨by rw [hvb]; exact (HR.out.2.2.2.2.2.2.2.2.2.below (H4.out.2.1.trans (hV.mono H4.out.2.1.size)) HR.out.2.2.2.2.2.2.2.2.1) kp b hkb, H4.out.1.below hV H4.out.1.lt⟩
            have HX := Lib.hid (And.intro hbd' (And.intro hxe hk0))
            clear hb hkb hbo hvb hnb hxe hvs hcall hord hkpl hkp hbd' hk0
            have s0 := HS7.out _ (Below.refl _ _).drew
            refine wp_region_noPanic (wp_region_held (S := fun V => V.rangeAt g (off + kp * 34) vb.toList ∧ Lies V B3 nv 255) (by kernel_rfl) ?_)
            change wpAnyH _ _ _ _ _ 14 _ _ (World.drew W4)
            have hbd : Below W4.heap.size W4 W4.drew := (Below.refl _ _).drew
            have hb4w := H4.out.2.1
            generalize World.drew W4 = wd at s0 hbd ⊢
            have hcur := s0
            by_cases hx : (0 : Int) ≤ x
            · skip
              refine tk 0 (.int .i64 k) 30 rfl rfl hcur ?_
              refine tk 1 (.bool true) 31 rfl rfl hcur ?_ (by intro w' hS'; unfold execOp; simp [go_sem]; omega)
              refine tk 2 (.bool true) 32 rfl rfl hcur ?_
              refine tk 3 (.func (.func 131) #[] #[]) 33 rfl rfl hcur ?_
              refine tk 4 (.slice (some ⟨g, off, none⟩) l.length c) 34 rfl rfl hcur ?_
              refine tk 5 (.int .i64 k) 35 rfl rfl hcur ?_
              refine tk 6 (.int .i64 kp) 36 rfl rfl hcur ?_ (by intro w' hS'; unfold execOp; simp [go_sem]; rw [IntKind.wrap_i64]; unfold wrap64 at ksub; omega)
              refine tk 7 (.pointer (some ⟨g, off + kp * 34, none⟩)) 37 rfl rfl hcur ?_ (by intro w' hS'; unfold execOp; simp [go_sem, kp0, kpl])
              refine tk 8 (.agg vb) 38 rfl rfl hcur ?_ (by intro w' hS'; exact exec_loadM 146 _ rfl _ _ rfl vb hS'.1 Tryz.underlying146 rfl HB.out.2.1)
              refine tk 10 (.agg nv) 40 rfl rfl hcur ?_ (by intro w' hS'; exact exec_loadM 255 _ rfl _ _ rfl nv (range_lies hS'.2) Tryz.underlying255 rfl HB.out.2.2.1)
              refine held_one (i := 9) (by kernel_rfl) _ rfl (wpOp_callG rfl (by rfl) 39 rfl 131 #[.agg vb] (by unfold execOp; simp [go_sem]) _ (ret_of (HB.out.2.2.2.1 wd)) ?_)
              rintro v9 w9 ⟨rfl, hb9⟩
              have hb9' := hbd.trans (hb9.mono hbd.size)
              have hcur := HS7.out _ hb9'
              refine ⟨hcur, ?_⟩
              simp only [Act.put, List.setIfInBounds_toArray, List.set_cons_zero, List.set_cons_succ]
              refine held_one (i := 11) (by kernel_rfl) _ rfl (wpOp_callG rfl (by rfl) 41 rfl 205 #[.agg nb, .agg nv] (by unfold execOp; simp [go_sem]) _ (ret_of (HB.out.2.2.2.2 w9)) ?_)
              rintro v11 w11 ⟨rfl, hb11⟩
              have hb11' := hb9'.trans (hb11.mono hb9'.size)
              have hcur := HS7.out _ hb11'
              refine ⟨hcur, ?_⟩
              simp only [Act.put, List.setIfInBounds_toArray, List.set_cons_zero, List.set_cons_succ]
              refine tk 12 (.bool true) 42 rfl rfl hcur ?_ (by intro w' hS'; unfold execOp; simp [go_sem, hx])
              refine tk 13 (.bool true) 43 rfl rfl hcur ?_
              refine wpAnyH_done (by kernel_rfl) ?_ _
              unfold NoPanic
              dsimp only
              have HBW := Lib.hid (hb4w.trans (hb11'.mono hb4w.size))
              clear hbd hcur hb9 hb9' hb11 hb11' hb4w
              go_wp2_with fail
              go_ret
              refine ⟨?_, HBW.out⟩
              rw [well_no HR.out.2.2.1 (by unfold okAt; rw [HR.out.2.2.2.2.1, HX.out.1, ← HX.out.2.1]; simp; omega)]
              rfl
            · skip
              refine tk 0 (.int .i64 k) 30 rfl rfl hcur ?_
              refine tk 1 (.bool true) 31 rfl rfl hcur ?_ (by intro w' hS'; unfold execOp; simp [go_sem]; omega)
              refine tk 2 (.bool true) 32 rfl rfl hcur ?_
              refine tk 3 (.func (.func 131) #[] #[]) 33 rfl rfl hcur ?_
              refine tk 4 (.slice (some ⟨g, off, none⟩) l.length c) 34 rfl rfl hcur ?_
              refine tk 5 (.int .i64 k) 35 rfl rfl hcur ?_
              refine tk 6 (.int .i64 kp) 36 rfl rfl hcur ?_ (by intro w' hS'; unfold execOp; simp [go_sem]; rw [IntKind.wrap_i64]; unfold wrap64 at ksub; omega)
              refine tk 7 (.pointer (some ⟨g, off + kp * 34, none⟩)) 37 rfl rfl hcur ?_ (by intro w' hS'; unfold execOp; simp [go_sem, kp0, kpl])
              refine tk 8 (.agg vb) 38 rfl rfl hcur ?_ (by intro w' hS'; exact exec_loadM 146 _ rfl _ _ rfl vb hS'.1 Tryz.underlying146 rfl HB.out.2.1)
              refine tk 10 (.agg nv) 40 rfl rfl hcur ?_ (by intro w' hS'; exact exec_loadM 255 _ rfl _ _ rfl nv (range_lies hS'.2) Tryz.underlying255 rfl HB.out.2.2.1)
              refine held_one (i := 9) (by kernel_rfl) _ rfl (wpOp_callG rfl (by rfl) 39 rfl 131 #[.agg vb] (by unfold execOp; simp [go_sem]) _ (ret_of (HB.out.2.2.2.1 wd)) ?_)
              rintro v9 w9 ⟨rfl, hb9⟩
              have hb9' := hbd.trans (hb9.mono hbd.size)
              have hcur := HS7.out _ hb9'
              refine ⟨hcur, ?_⟩
              simp only [Act.put, List.setIfInBounds_toArray, List.set_cons_zero, List.set_cons_succ]
              refine held_one (i := 11) (by kernel_rfl) _ rfl (wpOp_callG rfl (by rfl) 41 rfl 205 #[.agg nb, .agg nv] (by unfold execOp; simp [go_sem]) _ (ret_of (HB.out.2.2.2.2 w9)) ?_)
              rintro v11 w11 ⟨rfl, hb11⟩
              have hb11' := hb9'.trans (hb11.mono hb9'.size)
              have hcur := HS7.out _ hb11'
              refine ⟨hcur, ?_⟩
              simp only [Act.put, List.setIfInBounds_toArray, List.set_cons_zero, List.set_cons_succ]
              refine tk 12 (.bool false) 42 rfl rfl hcur ?_ (by intro w' hS'; unfold execOp; simp [go_sem, hx])
              refine tk 13 (.bool false) 43 rfl rfl hcur ?_
              refine wpAnyH_done (by kernel_rfl) ?_ _
              unfold NoPanic
              dsimp only
              have HBW := Lib.hid (hb4w.trans (hb11'.mono hb4w.size))
              clear hbd hcur hb9 hb9' hb11 hb11' hb4w
              have HOK := Lib.hid (show okAt p l k = true by unfold okAt; rw [HR.out.2.2.2.2.1, HX.out.1, ← HX.out.2.1, H4.out.2.2.2]; simp; exact ⟨H4.out.2.2.1, Or.inr (by omega)⟩)
              go_wp2_with fail
              have e1 : (k : Int) + 1 = ((k + 1 : Nat) : Int) := by omega
              rw [e1]
              refine ⟨⟨k + 1, HR.out.2.2.1, rfl, HBW.out, fun i hi => ?_⟩, ?_⟩
              · by_cases e : i = k
                · rw [e]; exact HOK.out
                · exact HR.out.2.1 i (by omega)
              · have h := HR.out.2.2.1
                show l.length - (k + 1) < l.length - k
                omega
    · have e1 : k = l.length := by omega
      have HF := Lib.hid (And.intro hb (And.intro hall e1))
      have m1 : ¬ (k : Int) < (l.length : Int) := by omega
      clear hb hall e1 hk hlt
      go_wp2_with fail
      go_ret
      refine ⟨?_, HF.out.1⟩
      rw [well_yes (fun i hi => HF.out.2.1 i (by rw [HF.out.2.2]; exact hi))]
      rfl
end Go.Proofs.YtilbbemdinpjcaaGreat
namespace Go.Proofs.YtilbbemdinpjcaaGreat
set_option maxRecDepth 100000
open Go.RowKit Go.Sort
theorem enter_of {P : Program} {f : FuncId} {fn : Func} {c : Code} (hf : P.funcs[f]? = some fn) (hname : (fn.name == "runtime.NumGoroutine") = false) (hb : fn.body = some c) (args : Array Value) (w : World) :
  (callFunc f args).run P w = .ok (.enter f args) w := by
 have h1 : fn.name ≠ "runtime.NumGoroutine" := by simpa using hname
 simp [callFunc, hf, h1, hb]
theorem enterPos (args : Array Value) (w : World) : (callFunc 129 args).run Tryz.prog w = .ok (.enter 129 args) w :=
 enter_of Tryz.func129 (by kernel_rfl) rfl args w
def isPos (a : As) : Bool := decide (1 ≤ a.amt)
def Row (w : World) (pa : Option Addr) (l : List As) : Prop := l.length ≤ maxLen ∧ (∀ a, a ∈ l → AsOk a) ∧ (0 < l.length → ∃ g off, pa = some ⟨g, off, none⟩ ∧ g < w.heap.size ∧ HasA w g off l)
theorem Row.below {B : Nat} {w w' : World} {pa : Option Addr} {l : List As} (h : Row w pa l) (hb : Below B w w') (hB : w.heap.size ≤ B) : Row w' pa l :=
 ⟨h.1, h.2.1, fun hl => by
  obtain ⟨g, off, e, hg, hh⟩ := h.2.2 hl
  exact ⟨g, off, e, Nat.lt_of_lt_of_le hg hb.size, hh.below hb (Nat.lt_of_lt_of_le hg hB)⟩⟩
def vC (coin : Int) (pa : Option Addr) (n c : Nat) : Array Value := #[.int .i64 coin, .slice pa n c]
def rightB (coin : Int) (l : List As) : Bool := decide (0 ≤ coin) && decide (l.length ≤ 30) && wellB isPos l
theorem wellPos (w : World) (pa : Option Addr) (l : List As) (c : Nat) (h : Row w pa l) :
  Calls Tryz.prog 130 #[.slice pa l.length c, .func (.func 131) #[] #[], .func (.func 129) #[] #[]] w fun e w' => e = .returned (.bool (wellB isPos l)) ∧ Below w.heap.size w w' :=
 well_any 129 isPos enterPos (fun w a ha => isPos_any w a ha) w pa l c h.1 (fun a ha => ⟨(h.2.1 a ha).1, (h.2.1 a ha).2.1⟩) h.2.2
theorem right_any (w : World) (coin : Int) (pa : Option Addr) (l : List As) (c : Nat) (h : Row w pa l) :
  Calls Tryz.prog 63 #[.agg (vC coin pa l.length c)] w fun e w' => e = .returned (.bool (rightB coin l)) ∧ Below w.heap.size w w' := by
 have hn : (l.length : Int) ≤ 9223372036854775807 := by have := h.1; unfold maxLen at this; omega
 have hb1 : Below w.heap.size w (w.alloc (.cells (vC coin pa l.length c) 27)) := (Below.refl _ _).alloc (Nat.le_refl _) _
 have hL : Lies (w.alloc (.cells (vC coin pa l.length c) 27)) w.heap.size (vC coin pa l.length c) 27 := Lies.new _ _ _
 have hC := wellPos _ pa l c (h.below hb1 (Nat.le_refl _))
 have H := Lib.hid (And.intro hC hb1)
 have c0 := hL.cell 0 (v := .int .i64 coin) rfl
 have c1 := hL.cell 1 (v := .slice pa l.length c) rfl
 clear h hC hb1 hL
 unfold vC
 unfold vC at H c0 c1
 go_enter Tryz.func63, Tryz.ntmps63
 by_cases hc : 0 ≤ coin
 ·
  by_cases h30 : l.length ≤ 30
  ·
   have m30 : (l.length : Int) ≤ 30 := by omega
   have HV := Lib.hid (show rightB coin l = wellB isPos l by unfold rightB; simp [hc, h30])
   go_wp2_with fail
   refine H.out.1.mono ?_
   rintro e w2 ⟨rfl, hb2⟩
   go_wp2_with fail
   go_ret
   refine ⟨?_, H.out.2.trans (hb2.mono H.out.2.size)⟩
   rw [HV.out]
   rfl
  ·
   have m30 : ¬ (l.length : Int) ≤ 30 := by omega
   have HV := Lib.hid (show rightB coin l = false by unfold rightB; simp [h30])
   go_wp2_with fail
   go_ret
   refine ⟨?_, H.out.2⟩
   rw [HV.out]
   rfl
 ·
  have HV := Lib.hid (show rightB coin l = false by unfold rightB; simp [hc])
  go_wp2_with fail
  go_ret
  refine ⟨?_, H.out.2⟩
  rw [HV.out]
  rfl
end Go.Proofs.YtilbbemdinpjcaaGreat
