/-
  A total as it lies in memory; what it is called; which of two stands ahead; are two the same?
-/
import Derived.Test.YtjngghihciimjaaGreatJVe
import Derived.Deep.Cut
import Derived.Deep.DeepMust
import Derived.IntWalk
import Derived.Deep.WholeRow
import Derived.Laws.Externs
namespace Go.Proofs.YtjngghihciimjaaGreat
set_option maxRecDepth 100000
open Go.RowKit Go.Sort
instance : Inhabited As := ⟨⟨([], []), 0⟩⟩
def HasA (w : World) (g off : Nat) (l : List As) : Prop := ∀ i a, l[i]? = some a → w.rangeAt g (off + i * 34) (asC a).toList
theorem HasA.below {B : Nat} {w w' : World} {g off : Nat} {l : List As} (h : HasA w g off l) (hb : Below B w w') (hg : g < B) : HasA w' g off l :=
 fun i a hi j v hv => (hb.cell (p := ⟨g, off + i * 34 + j, none⟩) hg).trans (h i a hi j v hv)
section
variable {P : Program} {ops : Array Oper} {Q : Exit → Act → World → Prop}
theorem wpList_row_want {rest : List Oper} {o : Oper} {a : Act} {w : World} (hw : Region.wanted o (yielded ops a.tmps) = true) (ty : TypeId) (x : Operand) (ho : o.op = .load ty x)
  (g : Nat) (hx : a.eval x = .pointer (some ⟨g, 0, none⟩)) (t : TypeId) (cs : Array Value) (fr : Nat × Nat) (d : TypeDesc) (hg : w.heap[g]? = some (.cells cs t fr))
  (hu : P.underlying ty = some d) (hd : (match d with | .struct _ | .array _ _ => true | _ => false) = true) (hi : (P.info? ty).map (·.size) = some cs.size)
  (h : wpList P ops Q rest (a.put o.dst (.agg cs)) w) : wpList P ops Q (o :: rest) a w :=
 BigFrame.wpList_want hw fun _ hK => wp_load_row ty x ho g hx t cs fr d hg hu hd hi (hK _ _ h)
end
theorem ret_of {P : Program} {f : FuncId} {args : Array Value} {w : World} {v : Value} {B : Nat} {w0 : World} (h : Calls P f args w fun e w' => e = .returned v ∧ Below B w0 w') : Calls P f args w fun e w' => ∃ v2, e = .returned v2 ∧ (v2 = v ∧ Below B w0 w') :=
 h.mono fun _ _ h => ⟨v, h.1, rfl, h.2⟩
theorem txt_size (l : List UInt8) : (txt l).size = l.length := by show l.toArray.size = _; simp
def okAt (p : As → Bool) (l : List As) (i : Nat) : Bool :=
 decide ((l.getD i default).nm.2.length ≤ 32) && p (l.getD i default) && (i == 0 || decide (cN (l.getD (i - 1) default).nm (l.getD i default).nm < 0))
def wellB (p : As → Bool) (l : List As) : Bool := (List.range l.length).all (okAt p l)
theorem well_no {p : As → Bool} {l : List As} {i : Nat} (hi : i < l.length) (h : okAt p l i = false) : wellB p l = false := by
 unfold wellB
 rw [List.all_eq_false]
 exact ⟨i, List.mem_range.2 hi, by rw [h]; simp⟩
theorem well_yes {p : As → Bool} {l : List As} (h : ∀ i, i < l.length → okAt p l i = true) : wellB p l = true := by
 unfold wellB
 rw [List.all_eq_true]
 exact fun i hi => h i (List.mem_range.1 hi)
def z34 : Array Value := ((Array.replicate 32 (.int .u8 0)).push (.string ⟨#[]⟩)).push (.int .i64 0)
set_option maxHeartbeats 4000000 in
theorem well_any (K : Nat) (p : As → Bool) (hK : ∀ args w, (callFunc K args).run Tryz.prog w = .ok (.enter K args) w)
    (hp : ∀ (w : World) (a : As), a.nm.1.length = 32 → Calls Tryz.prog K #[.agg (asC a)] w fun e w' => e = .returned (.bool (p a)) ∧ Below w.heap.size w w')
    (w : World) (pa : Option Addr) (l : List As) (c : Nat) (hl : l.length ≤ maxLen) (hok : ∀ a, a ∈ l → a.nm.1.length = 32 ∧ a.nm.2.length ≤ maxLen)
    (hsrc : 0 < l.length → ∃ g off, pa = some ⟨g, off, none⟩ ∧ g < w.heap.size ∧ HasA w g off l) :
    Calls Tryz.prog 58 #[.slice pa l.length c, .func (.func 59) #[] #[], .func (.func K) #[] #[]] w fun e w' => e = .returned (.bool (wellB p l)) ∧ Below w.heap.size w w' := by
  have hli : (l.length : Int) ≤ 9223372036854775807 := by unfold maxLen at hl; omega
  have HS := Lib.hid (And.intro hsrc hok)
  have HP := Lib.hid hp
  clear hsrc hok hp hl
  go_enter Tryz.func58, Tryz.ntmps58
  go_wp2_with fail
  go_loopw [12] (fun i W => ∃ k : Nat, k ≤ l.length ∧ i = .int .i64 k ∧ Below w.heap.size w W ∧ ∀ i, i < k → okAt p l i = true) (fun i _ => l.length - (intOf i).toNat)
  case atStart => exact ⟨0, Nat.zero_le _, rfl, Below.refl _ _, fun i hi => absurd hi (by omega)⟩
  case round =>
    obtain ⟨k, hk, rfl, hb, hall⟩ := hrel
    by_cases hlt : k < l.length
    · have m1 : (k : Int) < (l.length : Int) := by omega
      have m0 : (0 : Int) ≤ (k : Int) := by omega
      obtain ⟨g, off, rfl, hg, hhas⟩ := HS.out.1 (by omega)
      obtain ⟨a, ha⟩ : ∃ a, a = l[k] := ⟨_, rfl⟩
      have hka : l[k]? = some a := by rw [ha, List.getElem?_eq_getElem hlt]
      have hkd : l.getD k default = a := by rw [List.getD_eq_getElem?_getD, hka]; rfl
      have hao := HS.out.2 a (List.mem_of_getElem? hka)
      have hrg := (hhas.below hb hg) k a hka
      obtain ⟨va, hva⟩ : ∃ v, v = asC a := ⟨_, rfl⟩
      have hvs : va.size = 34 := by rw [hva]; exact asC_size a hao.1
      rw [← hva] at hrg
      have HR := Lib.hid (And.intro hb (And.intro hall (And.intro hlt (And.intro hka (And.intro hkd (And.intro hao (And.intro hva (And.intro hvs (And.intro hg hhas)))))))))
      have HRG := Lib.hid hrg
      clear hb hall hlt hk ha hka hkd hao hrg hva hvs hg hhas
      have eA : ∀ W, Calls Tryz.prog 59 #[.agg va] W fun e w' => e = .returned (.agg (nmC a.nm)) ∧ Below W.heap.size W w' := fun W => by
        rw [HR.out.2.2.2.2.2.2.1]; exact callAsset_any W a HR.out.2.2.2.2.2.1.1
      have HEA := Lib.hid eA
      clear eA
      go_upto_region 4 with (first
        | (refine wpList_load_mid rfl 38 _ rfl g (off + k * 34) rfl va.toList _ HRG.out Tryz.underlying38 rfl (by rw [Array.length_toList, HR.out.2.2.2.2.2.2.2.1]; exact info_asset) ?_)
        | (refine wpList_store_row rfl 38 _ _ rfl wr.heap.size va rfl rfl 38 z34 (Lies.new wr z34 38) (by rw [HR.out.2.2.2.2.2.2.2.1]; exact info_asset) (by rw [HR.out.2.2.2.2.2.2.2.1]; kernel_rfl) (by rw [HR.out.2.2.2.2.2.2.1]; exact asC_one a) ?_))
      rw [World.setRow_alloc_new]
      have hL1 : Lies (wr.alloc (.cells va 38)) wr.heap.size va 38 := Lies.new _ _ _
      have hb1 : Below wr.heap.size wr (wr.alloc (.cells va 38)) := (Below.refl _ _).alloc (Nat.le_refl _) _
      have hs1 : (wr.alloc (.cells va 38)).heap.size = wr.heap.size + 1 := by simp
      generalize wr.alloc (.cells va 38) = W1 at hL1 hb1 hs1 ⊢
      obtain ⟨nv, hnv⟩ : ∃ v, v = nmC a.nm := ⟨_, rfl⟩
      have hns : nv.size = 33 := by rw [hnv]; exact nmC_size a.nm HR.out.2.2.2.2.2.1.1
      have HEA' : Hid (∀ W, Calls Tryz.prog 59 #[.agg va] W fun e w' => e = .returned (.agg nv) ∧ Below W.heap.size W w') := by rw [hnv]; exact HEA
      have H1 := Lib.hid (And.intro hL1 (And.intro hb1 (And.intro hs1 (And.intro hnv hns))))
      clear HEA hL1 hb1 hs1 hnv hns
      go_upto_region 5 with (first
        | (refine wpList_load_row rfl 38 _ rfl wr.heap.size rfl 38 va (0, 0) _ H1.out.1 Tryz.underlying38 rfl (by rw [HR.out.2.2.2.2.2.2.2.1]; exact info_asset) ?_)
        | (go_at_call 59; refine (HEA'.out _).mono ?_; rintro e W2 ⟨rfl, hb2⟩)
        | (refine wpList_store_row rfl 86 _ _ rfl _ nv rfl rfl 86 z33 (Lies.new _ z33 86) (by rw [H1.out.2.2.2.2]; exact info_called) (by rw [H1.out.2.2.2.2]; kernel_rfl) (by rw [H1.out.2.2.2.1]; exact nmC_one a.nm) ?_))
      rw [World.setRow_alloc_new]
      have hpr := HP.out
      obtain ⟨B3, hB3⟩ : ∃ b, b = W2.heap.size := ⟨_, rfl⟩
      have hL3 : Lies (W2.alloc (.cells nv 86)) B3 nv 86 := by rw [hB3]; exact Lies.new _ _ _
      have hb3 : Below wr.heap.size wr (W2.alloc (.cells nv 86)) := H1.out.2.1.trans ((hb2.alloc hb2.size _).mono (by rw [H1.out.2.2.1]; omega))
      have hA3 : Lies (W2.alloc (.cells nv 86)) wr.heap.size va 38 := (H1.out.1.below hb2 H1.out.1.lt).alloc _
      rw [← hB3]
      generalize W2.alloc (.cells nv 86) = W3 at hL3 hb3 hA3 ⊢
      have c32 := hL3.cell 32 (v := .string (txt a.nm.2)) (by rw [H1.out.2.2.2.1]; exact nmC_txt a.nm HR.out.2.2.2.2.2.1.1)
      have hts := txt_size a.nm.2
      generalize txt a.nm.2 = tv at c32 hts
      have htl : (tv.size : Int) ≤ 9223372036854775807 := by have := HR.out.2.2.2.2.2.1.2; unfold maxLen at this; omega
      have H3 := Lib.hid (And.intro hL3 (And.intro hb3 (And.intro hA3 hts)))
      clear hL3 hb3 hA3 hts hB3 hb2 hpr HEA'
      by_cases hlong : 32 < a.nm.2.length
      · have m2 : (32 : Int) < (tv.size : Int) := by rw [H3.out.2.2.2]; omega
        go_wp2_with fail
        go_ret
        refine ⟨?_, HR.out.1.trans (H3.out.2.1.mono HR.out.1.size)⟩
        rw [well_no HR.out.2.2.1 (by unfold okAt; rw [HR.out.2.2.2.2.1]; simp; omega)]
        rfl
      · have m2 : (tv.size : Int) ≤ (32 : Int) := by rw [H3.out.2.2.2]; omega
        have hd : decide ((32 : Int) < (tv.size : Int)) = false := by simp; omega
        have HK := Lib.hid (HP.out W3 a HR.out.2.2.2.2.2.1.1)
        rw [← HR.out.2.2.2.2.2.2.1] at HK
        cases hpa : p a with
        | false =>
          rw [hpa] at HK
          go_wp2_with (first
            | (refine wpList_row_want (by first | kernel_rfl | (rw [hd]; kernel_rfl)) 38 _ rfl wr.heap.size rfl 38 va (0, 0) _ H3.out.2.2.1 Tryz.underlying38 rfl (by rw [HR.out.2.2.2.2.2.2.2.1]; exact info_asset) ?_)
            | (refine HK.out.mono ?_; rintro e W4 ⟨rfl, hb4⟩))
          go_ret
          refine ⟨?_, HR.out.1.trans ((H3.out.2.1.trans (hb4.mono H3.out.2.1.size)).mono HR.out.1.size)⟩
          rw [well_no HR.out.2.2.1 (by unfold okAt; rw [HR.out.2.2.2.2.1, hpa]; simp)]
          rfl
        | true =>
          rw [hpa] at HK
          go_upto_region 7 with (first
            | (refine wpList_row_want (by first | kernel_rfl | (rw [hd]; kernel_rfl)) 38 _ rfl wr.heap.size rfl 38 va (0, 0) _ H3.out.2.2.1 Tryz.underlying38 rfl (by rw [HR.out.2.2.2.2.2.2.2.1]; exact info_asset) ?_)
            | (refine HK.out.mono ?_; rintro e W4 ⟨rfl, hb4⟩))
          have hb4w : Below w.heap.size w W4 := HR.out.1.trans ((H3.out.2.1.trans (hb4.mono H3.out.2.1.size)).mono HR.out.1.size)
          have hL4 : Lies W4 B3 nv 86 := H3.out.1.below hb4 H3.out.1.lt
          have h32 : a.nm.2.length ≤ 32 := by omega
          have H4 := Lib.hid (And.intro hL4 (And.intro hb4w (And.intro h32 hpa)))
          clear hL4 hb4w h32 hpa hb4 HK hd hlong m2 c32 htl
          by_cases hk0 : k = 0
          · have kz : ¬ (0 : Int) < (k : Int) := by omega
            have HOK := Lib.hid (show okAt p l k = true by unfold okAt; rw [HR.out.2.2.2.2.1, H4.out.2.2.2]; simpa [hk0] using H4.out.2.2.1)
            have HK0 := Lib.hid hk0
            clear hk0
            refine wp_region_noPanic (wp_region_held (S := fun V => True) (by kernel_rfl) ?_)
            change wpAnyH _ _ _ _ _ 14 _ _ (World.drew W4)
            have hcur : True := trivial
            refine tk 0 (.int .i64 k) 30 rfl rfl hcur ?_
            refine tk 1 (.bool false) 31 rfl rfl hcur ?_ (by intro w' hS'; unfold execOp; simp [go_sem]; exact HK0.out)
            refine tk 2 (.bool false) 32 rfl rfl hcur ?_
            refine held_skip (i := 3) rfl 33 rfl (by kernel_rfl) (by kernel_rfl) (by kernel_rfl) (fun _ _ _ h => h) (by rfl) hcur _ rfl ?_
            simp only [Act.put, List.setIfInBounds_toArray, List.set_cons_zero, List.set_cons_succ]
            refine held_skip (i := 4) rfl 34 rfl (by kernel_rfl) (by kernel_rfl) (by kernel_rfl) (fun _ _ _ h => h) (by rfl) hcur _ rfl ?_
            simp only [Act.put, List.setIfInBounds_toArray, List.set_cons_zero, List.set_cons_succ]
            refine held_skip (i := 5) rfl 35 rfl (by kernel_rfl) (by kernel_rfl) (by kernel_rfl) (fun _ _ _ h => h) (by rfl) hcur _ rfl ?_
            simp only [Act.put, List.setIfInBounds_toArray, List.set_cons_zero, List.set_cons_succ]
            refine held_skip (i := 6) rfl 36 rfl (by kernel_rfl) (by kernel_rfl) (by kernel_rfl) (fun _ _ _ h => h) (by rfl) hcur _ rfl ?_
            simp only [Act.put, List.setIfInBounds_toArray, List.set_cons_zero, List.set_cons_succ]
            refine held_skip (i := 7) rfl 37 rfl (by kernel_rfl) (by kernel_rfl) (by kernel_rfl) (fun _ _ _ h => h) (by rfl) hcur _ rfl ?_
            simp only [Act.put, List.setIfInBounds_toArray, List.set_cons_zero, List.set_cons_succ]
            refine held_skip (i := 8) rfl 38 rfl (by kernel_rfl) (by kernel_rfl) (by kernel_rfl) (fun _ _ _ h => h) (by rfl) hcur _ rfl ?_
            simp only [Act.put, List.setIfInBounds_toArray, List.set_cons_zero, List.set_cons_succ]
            refine held_skip (i := 9) rfl 39 rfl (by kernel_rfl) (by kernel_rfl) (by kernel_rfl) (fun _ _ _ h => h) (by rfl) hcur _ rfl ?_
            simp only [Act.put, List.setIfInBounds_toArray, List.set_cons_zero, List.set_cons_succ]
            refine held_skip (i := 10) rfl 40 rfl (by kernel_rfl) (by kernel_rfl) (by kernel_rfl) (fun _ _ _ h => h) (by rfl) hcur _ rfl ?_
            simp only [Act.put, List.setIfInBounds_toArray, List.set_cons_zero, List.set_cons_succ]
            refine held_skip (i := 11) rfl 41 rfl (by kernel_rfl) (by kernel_rfl) (by kernel_rfl) (fun _ _ _ h => h) (by rfl) hcur _ rfl ?_
            simp only [Act.put, List.setIfInBounds_toArray, List.set_cons_zero, List.set_cons_succ]
            refine held_skip (i := 12) rfl 42 rfl (by kernel_rfl) (by kernel_rfl) (by kernel_rfl) (fun _ _ _ h => h) (by rfl) hcur _ rfl ?_
            simp only [Act.put, List.setIfInBounds_toArray, List.set_cons_zero, List.set_cons_succ]
            refine tk 13 (.bool false) 43 rfl rfl hcur ?_
            refine wpAnyH_done (by kernel_rfl) ?_ _
            unfold NoPanic
            dsimp only
            clear hcur
            go_wp2_with fail
            have e1 : (k : Int) + 1 = ((k + 1 : Nat) : Int) := by omega
            rw [e1]
            refine ⟨⟨k + 1, HR.out.2.2.1, rfl, H4.out.2.1.trans ((Below.refl _ _).drew.mono H4.out.2.1.size), fun i hi => ?_⟩, ?_⟩
            · by_cases e : i = k
              · rw [e]; exact HOK.out
              · exact HR.out.2.1 i (by omega)
            · have h := HR.out.2.2.1
              show l.length - (k + 1) < l.length - k
              omega
          · obtain ⟨kp, hkp⟩ : ∃ i, i = k - 1 := ⟨_, rfl⟩
            have kpos : (0 : Int) < (k : Int) := by omega
            have ksub : wrap64 ((k : Int) - 1) = (kp : Int) := by unfold wrap64; omega
            have kp0 : (0 : Int) ≤ (kp : Int) := by omega
            have kpl : (kp : Int) < (l.length : Int) := by omega
            have hkpl : kp < l.length := by omega
            obtain ⟨b, hb⟩ : ∃ b, b = l[kp] := ⟨_, rfl⟩
            have hkb : l[kp]? = some b := by rw [hb, List.getElem?_eq_getElem hkpl]
            have hbd' : l.getD (k - 1) default = b := by rw [← hkp, List.getD_eq_getElem?_getD, hkb]; rfl
            have hbo := HS.out.2 b (List.mem_of_getElem? hkb)
            obtain ⟨vb, hvb⟩ : ∃ v, v = asC b := ⟨_, rfl⟩
            obtain ⟨nb, hnb⟩ : ∃ v, v = nmC b.nm := ⟨_, rfl⟩
            obtain ⟨x, hxe⟩ : ∃ x, x = cN b.nm a.nm := ⟨_, rfl⟩
            have hvs : vb.size = 34 := by rw [hvb]; exact asC_size b hbo.1
            have hcall : ∀ W, Calls Tryz.prog 59 #[.agg vb] W fun e w' => e = .returned (.agg nb) ∧ Below W.heap.size W w' := fun W => by
              rw [hvb, hnb]; exact callAsset_any W b hbo.1
            have hord : ∀ W, Calls Tryz.prog 89 #[.agg nb, .agg nv] W fun e w' => e = .returned (.int .i64 x) ∧ Below W.heap.size W w' := fun W => by
              rw [hnb, H1.out.2.2.2.1, hxe]; exact order_any W b.nm a.nm hbo.1 HR.out.2.2.2.2.2.1.1
            have HB := Lib.hid (And.intro hvs (And.intro (show (Tryz.prog.info? 38).map (·.size) = some vb.size by rw [hvs]; exact info_asset) (And.intro (show (Tryz.prog.info? 86).map (·.size) = some nv.size by rw [H1.out.2.2.2.2]; exact info_called) (And.intro hcall hord))))
            have HS7 : Hid (∀ V, Below W4.heap.size W4 V → V.rangeAt g (off + kp * 34) vb.toList ∧ Lies V B3 nv 86) := Lib.hid fun V hV =>
              ⟨by rw [hvb]; exact (HR.out.2.2.2.2.2.2.2.2.2.below (H4.out.2.1.trans (hV.mono H4.out.2.1.size)) HR.out.2.2.2.2.2.2.2.2.1) kp b hkb, H4.out.1.below hV H4.out.1.lt⟩
            have HX := Lib.hid (And.intro hbd' (And.intro hxe hk0))
            clear hb hkb hbo hvb hnb hxe hvs hcall hord hkpl hkp hbd' hk0
            have s0 := HS7.out _ (Below.refl _ _).drew
            refine wp_region_noPanic (wp_region_held (S := fun V => V.rangeAt g (off + kp * 34) vb.toList ∧ Lies V B3 nv 86) (by kernel_rfl) ?_)
            change wpAnyH _ _ _ _ _ 14 _ _ (World.drew W4)
            have hbd : Below W4.heap.size W4 W4.drew := (Below.refl _ _).drew
            have hb4w := H4.out.2.1
            generalize World.drew W4 = wd at s0 hbd ⊢
            have hcur := s0
            by_cases hx : (0 : Int) ≤ x
            · skip
              refine tk 0 (.int .i64 k) 30 rfl rfl hcur ?_
              refine tk 1 (.bool true) 31 rfl rfl hcur ?_ (by intro w' hS'; unfold execOp; simp [go_sem]; omega)
              refine tk 2 (.bool true) 32 rfl rfl hcur ?_
              refine tk 3 (.func (.func 59) #[] #[]) 33 rfl rfl hcur ?_
              refine tk 4 (.slice (some ⟨g, off, none⟩) l.length c) 34 rfl rfl hcur ?_
              refine tk 5 (.int .i64 k) 35 rfl rfl hcur ?_
              refine tk 6 (.int .i64 kp) 36 rfl rfl hcur ?_ (by intro w' hS'; unfold execOp; simp [go_sem]; rw [IntKind.wrap_i64]; unfold wrap64 at ksub; omega)
              refine tk 7 (.pointer (some ⟨g, off + kp * 34, none⟩)) 37 rfl rfl hcur ?_ (by intro w' hS'; unfold execOp; simp [go_sem, kp0, kpl])
              refine tk 8 (.agg vb) 38 rfl rfl hcur ?_ (by intro w' hS'; exact exec_loadM 38 _ rfl _ _ rfl vb hS'.1 Tryz.underlying38 rfl HB.out.2.1)
              refine tk 10 (.agg nv) 40 rfl rfl hcur ?_ (by intro w' hS'; exact exec_loadM 86 _ rfl _ _ rfl nv (range_lies hS'.2) Tryz.underlying86 rfl HB.out.2.2.1)
              refine held_one (i := 9) (by kernel_rfl) _ rfl (wpOp_callG rfl (by rfl) 39 rfl 59 #[.agg vb] (by unfold execOp; simp [go_sem]) _ (ret_of (HB.out.2.2.2.1 wd)) ?_)
              rintro v9 w9 ⟨rfl, hb9⟩
              have hb9' := hbd.trans (hb9.mono hbd.size)
              have hcur := HS7.out _ hb9'
              refine ⟨hcur, ?_⟩
              simp only [Act.put, List.setIfInBounds_toArray, List.set_cons_zero, List.set_cons_succ]
              refine held_one (i := 11) (by kernel_rfl) _ rfl (wpOp_callG rfl (by rfl) 41 rfl 89 #[.agg nb, .agg nv] (by unfold execOp; simp [go_sem]) _ (ret_of (HB.out.2.2.2.2 w9)) ?_)
              rintro v11 w11 ⟨rfl, hb11⟩
              have hb11' := hb9'.trans (hb11.mono hb9'.size)
              have hcur := HS7.out _ hb11'
              refine ⟨hcur, ?_⟩
              simp only [Act.put, List.setIfInBounds_toArray, List.set_cons_zero, List.set_cons_succ]
              refine tk 12 (.bool true) 42 rfl rfl hcur ?_ (by intro w' hS'; unfold execOp; simp [go_sem, hx])
              refine tk 13 (.bool true) 43 rfl rfl hcur ?_
              refine wpAnyH_done (by kernel_rfl) ?_ _
              unfold NoPanic
              dsimp only
              have HBW := Lib.hid (hb4w.trans (hb11'.mono hb4w.size))
              clear hbd hcur hb9 hb9' hb11 hb11' hb4w
              go_wp2_with fail
              go_ret
              refine ⟨?_, HBW.out⟩
              rw [well_no HR.out.2.2.1 (by unfold okAt; rw [HR.out.2.2.2.2.1, HX.out.1, ← HX.out.2.1]; simp; omega)]
              rfl
            · skip
              refine tk 0 (.int .i64 k) 30 rfl rfl hcur ?_
              refine tk 1 (.bool true) 31 rfl rfl hcur ?_ (by intro w' hS'; unfold execOp; simp [go_sem]; omega)
              refine tk 2 (.bool true) 32 rfl rfl hcur ?_
              refine tk 3 (.func (.func 59) #[] #[]) 33 rfl rfl hcur ?_
              refine tk 4 (.slice (some ⟨g, off, none⟩) l.length c) 34 rfl rfl hcur ?_
              refine tk 5 (.int .i64 k) 35 rfl rfl hcur ?_
              refine tk 6 (.int .i64 kp) 36 rfl rfl hcur ?_ (by intro w' hS'; unfold execOp; simp [go_sem]; rw [IntKind.wrap_i64]; unfold wrap64 at ksub; omega)
              refine tk 7 (.pointer (some ⟨g, off + kp * 34, none⟩)) 37 rfl rfl hcur ?_ (by intro w' hS'; unfold execOp; simp [go_sem, kp0, kpl])
              refine tk 8 (.agg vb) 38 rfl rfl hcur ?_ (by intro w' hS'; exact exec_loadM 38 _ rfl _ _ rfl vb hS'.1 Tryz.underlying38 rfl HB.out.2.1)
              refine tk 10 (.agg nv) 40 rfl rfl hcur ?_ (by intro w' hS'; exact exec_loadM 86 _ rfl _ _ rfl nv (range_lies hS'.2) Tryz.underlying86 rfl HB.out.2.2.1)
              refine held_one (i := 9) (by kernel_rfl) _ rfl (wpOp_callG rfl (by rfl) 39 rfl 59 #[.agg vb] (by unfold execOp; simp [go_sem]) _ (ret_of (HB.out.2.2.2.1 wd)) ?_)
              rintro v9 w9 ⟨rfl, hb9⟩
              have hb9' := hbd.trans (hb9.mono hbd.size)
              have hcur := HS7.out _ hb9'
              refine ⟨hcur, ?_⟩
              simp only [Act.put, List.setIfInBounds_toArray, List.set_cons_zero, List.set_cons_succ]
              refine held_one (i := 11) (by kernel_rfl) _ rfl (wpOp_callG rfl (by rfl) 41 rfl 89 #[.agg nb, .agg nv] (by unfold execOp; simp [go_sem]) _ (ret_of (HB.out.2.2.2.2 w9)) ?_)
              rintro v11 w11 ⟨rfl, hb11⟩
              have hb11' := hb9'.trans (hb11.mono hb9'.size)
              have hcur := HS7.out _ hb11'
              refine ⟨hcur, ?_⟩
              simp only [Act.put, List.setIfInBounds_toArray, List.set_cons_zero, List.set_cons_succ]
              refine tk 12 (.bool false) 42 rfl rfl hcur ?_ (by intro w' hS'; unfold execOp; simp [go_sem, hx])
              refine tk 13 (.bool false) 43 rfl rfl hcur ?_
              refine wpAnyH_done (by kernel_rfl) ?_ _
              unfold NoPanic
              dsimp only
              have HBW := Lib.hid (hb4w.trans (hb11'.mono hb4w.size))
              clear hbd hcur hb9 hb9' hb11 hb11' hb4w
              have HOK := Lib.hid (show okAt p l k = true by unfold okAt; rw [HR.out.2.2.2.2.1, HX.out.1, ← HX.out.2.1, H4.out.2.2.2]; simp; exact ⟨H4.out.2.2.1, Or.inr (by omega)⟩)
              go_wp2_with fail
              have e1 : (k : Int) + 1 = ((k + 1 : Nat) : Int) := by omega
              rw [e1]
              refine ⟨⟨k + 1, HR.out.2.2.1, rfl, HBW.out, fun i hi => ?_⟩, ?_⟩
              · by_cases e : i = k
                · rw [e]; exact HOK.out
                · exact HR.out.2.1 i (by omega)
              · have h := HR.out.2.2.1
                show l.length - (k + 1) < l.length - k
                omega
    · have e1 : k = l.length := by omega
      have HF := Lib.hid (And.intro hb (And.intro hall e1))
      have m1 : ¬ (k : Int) < (l.length : Int) := by omega
      clear hb hall e1 hk hlt
      go_wp2_with fail
      go_ret
      refine ⟨?_, HF.out.1⟩
      rw [well_yes (fun i hi => HF.out.2.1 i (by rw [HF.out.2.2]; exact hi))]
      rfl
end Go.Proofs.YtjngghihciimjaaGreat
namespace Go.Proofs.YtjngghihciimjaaGreat
set_option maxRecDepth 100000
open Go.RowKit Go.Sort
theorem enter_of {P : Program} {f : FuncId} {fn : Func} {c : Code} (hf : P.funcs[f]? = some fn) (hname : (fn.name == "runtime.NumGoroutine") = false) (hb : fn.body = some c) (args : Array Value) (w : World) :
  (callFunc f args).run P w = .ok (.enter f args) w := by
 have h1 : fn.name ≠ "runtime.NumGoroutine" := by simpa using hname
 simp [callFunc, hf, h1, hb]
theorem enterPos (args : Array Value) (w : World) : (callFunc 57 args).run Tryz.prog w = .ok (.enter 57 args) w :=
 enter_of Tryz.func57 (by kernel_rfl) rfl args w
def isPos (a : As) : Bool := decide (1 ≤ a.amt)
def Row (w : World) (pa : Option Addr) (l : List As) : Prop := l.length ≤ maxLen ∧ (∀ a, a ∈ l → AsOk a) ∧ (0 < l.length → ∃ g off, pa = some ⟨g, off, none⟩ ∧ g < w.heap.size ∧ HasA w g off l)
theorem Row.below {B : Nat} {w w' : World} {pa : Option Addr} {l : List As} (h : Row w pa l) (hb : Below B w w') (hB : w.heap.size ≤ B) : Row w' pa l :=
 ⟨h.1, h.2.1, fun hl => by
  obtain ⟨g, off, e, hg, hh⟩ := h.2.2 hl
  exact ⟨g, off, e, Nat.lt_of_lt_of_le hg hb.size, hh.below hb (Nat.lt_of_lt_of_le hg hB)⟩⟩
def vC (coin : Int) (pa : Option Addr) (n c : Nat) : Array Value := #[.int .i64 coin, .slice pa n c]
def rightB (coin : Int) (l : List As) : Bool := decide (0 ≤ coin) && decide (l.length ≤ 30) && wellB isPos l
theorem wellPos (w : World) (pa : Option Addr) (l : List As) (c : Nat) (h : Row w pa l) :
  Calls Tryz.prog 58 #[.slice pa l.length c, .func (.func 59) #[] #[], .func (.func 57) #[] #[]] w fun e w' => e = .returned (.bool (wellB isPos l)) ∧ Below w.heap.size w w' :=
 well_any 57 isPos enterPos (fun w a ha => isPos_any w a ha) w pa l c h.1 (fun a ha => ⟨(h.2.1 a ha).1, (h.2.1 a ha).2.1⟩) h.2.2
set_option maxHeartbeats 1000000 in
theorem right_any (w : World) (coin : Int) (pa : Option Addr) (l : List As) (c : Nat) (h : Row w pa l) :
  Calls Tryz.prog 14 #[.agg (vC coin pa l.length c)] w fun e w' => e = .returned (.bool (rightB coin l)) ∧ Below w.heap.size w w' := by
 have hn : (l.length : Int) ≤ 9223372036854775807 := by have := h.1; unfold maxLen at this; omega
 have hb1 : Below w.heap.size w (w.alloc (.cells (vC coin pa l.length c) 24)) := (Below.refl _ _).alloc (Nat.le_refl _) _
 have hL : Lies (w.alloc (.cells (vC coin pa l.length c) 24)) w.heap.size (vC coin pa l.length c) 24 := Lies.new _ _ _
 have hC := wellPos _ pa l c (h.below hb1 (Nat.le_refl _))
 have H := Lib.hid (And.intro hC hb1)
 have c0 := hL.cell 0 (v := .int .i64 coin) rfl
 have c1 := hL.cell 1 (v := .slice pa l.length c) rfl
 clear h hC hb1 hL
 unfold vC
 unfold vC at H c0 c1
 go_enter Tryz.func14, Tryz.ntmps14
 by_cases hc : 0 ≤ coin
 ·
  by_cases h30 : l.length ≤ 30
  ·
   have m30 : (l.length : Int) ≤ 30 := by omega
   have HV := Lib.hid (show rightB coin l = wellB isPos l by unfold rightB; simp [hc, h30])
   go_wp2_with fail
   refine H.out.1.mono ?_
   rintro e w2 ⟨rfl, hb2⟩
   go_wp2_with fail
   go_ret
   refine ⟨?_, H.out.2.trans (hb2.mono H.out.2.size)⟩
   rw [HV.out]
   rfl
  ·
   have m30 : ¬ (l.length : Int) ≤ 30 := by omega
   have HV := Lib.hid (show rightB coin l = false by unfold rightB; simp [h30])
   go_wp2_with fail
   go_ret
   refine ⟨?_, H.out.2⟩
   rw [HV.out]
   rfl
 ·
  have HV := Lib.hid (show rightB coin l = false by unfold rightB; simp [hc])
  go_wp2_with fail
  go_ret
  refine ⟨?_, H.out.2⟩
  rw [HV.out]
  rfl
end Go.Proofs.YtjngghihciimjaaGreat
namespace Go.Proofs.YtjngghihciimjaaGreat
set_option maxRecDepth 100000
open Go.RowKit Go.Sort
theorem Row.at {w : World} {g off : Nat} {l : List As} {i : Nat} {a : As} (h : HasA w g off l) (ha : l[i]? = some a) : w.rangeAt g (off + i * 34) (asC a).toList := h i a ha
set_option maxHeartbeats 4000000 in
theorem same_any (w : World) (pa pb : Option Addr) (l m : List As) (c e : Nat) (hl : Row w pa l) (hm : Row w pb m) :
  Calls Tryz.prog 56 #[.slice pa l.length c, .slice pb m.length e] w fun e w' => e = .returned (.bool (decide (l = m))) ∧ Below w.heap.size w w' := by
 have hli : (l.length : Int) ≤ 9223372036854775807 := by have := hl.1; unfold maxLen at this; omega
 have hmi : (m.length : Int) ≤ 9223372036854775807 := by have := hm.1; unfold maxLen at this; omega
 have HS := Lib.hid (And.intro hl hm)
 clear hl hm
 by_cases hlen : l.length = m.length
 ·
  rw [hlen]
  have HL := Lib.hid hlen
  clear hlen
  go_enter Tryz.func56, Tryz.ntmps56
  go_wp2_with fail
  go_loopw [5] (fun i W => ∃ k : Nat, k ≤ m.length ∧ i = .int .i64 k ∧ Below w.heap.size w W ∧ ∀ i, i < k → l[i]? = m[i]?) (fun i _ => m.length - (intOf i).toNat)
  case atStart => exact ⟨0, Nat.zero_le _, rfl, Below.refl _ _, fun i hi => absurd hi (by omega)⟩
  case round =>
   obtain ⟨k, hk, rfl, hb, hall⟩ := hrel
   have hlen := HL.out
   by_cases hlt : k < m.length
   ·
    have m1 : (k : Int) < (m.length : Int) := by omega
    have m0 : (0 : Int) ≤ (k : Int) := by omega
    obtain ⟨g, off, rfl, hg, hh⟩ := HS.out.1.2.2 (by omega)
    obtain ⟨g', off', rfl, hg', hh'⟩ := HS.out.2.2.2 (by omega)
    obtain ⟨a, ha⟩ : ∃ a, a = l[k] := ⟨_, rfl⟩
    obtain ⟨b, hb'⟩ : ∃ b, b = m[k] := ⟨_, rfl⟩
    have hka : l[k]? = some a := by rw [ha, List.getElem?_eq_getElem (by omega)]
    have hkb : m[k]? = some b := by rw [hb', List.getElem?_eq_getElem hlt]
    have oka := HS.out.1.2.1 a (List.mem_of_getElem? hka)
    have okb := HS.out.2.2.1 b (List.mem_of_getElem? hkb)
    obtain ⟨va, hva⟩ : ∃ v, v = asC a := ⟨_, rfl⟩
    obtain ⟨vb, hvb⟩ : ∃ v, v = asC b := ⟨_, rfl⟩
    have hvs : va.size = 34 := by rw [hva]; exact asC_size a oka.1
    have hvt : vb.size = 34 := by rw [hvb]; exact asC_size b okb.1
    have heq : ∀ W, (Op.equalIn 10000 38 (.agg va) (.agg vb)).run Tryz.prog W = .ok (decide (a = b)) W := fun W => by rw [hva, hvb]; exact eq_as W a b oka okb
    have HR1 : Hid (∀ W, Below w.heap.size w W → W.rangeAt g (off + k * 34) va.toList ∧ W.rangeAt g' (off' + k * 34) vb.toList) := Lib.hid fun W hW => by
     rw [hva, hvb]
     exact ⟨(hh.below hW hg) k a hka, (hh'.below hW hg') k b hkb⟩
    have HR := Lib.hid (And.intro hb (And.intro hall (And.intro hlt (And.intro hka (And.intro hkb (And.intro hvs hvt))))))
    have HI := Lib.hid (And.intro (show (Tryz.prog.info? 38).map (·.size) = some va.size by rw [hvs]; exact info_asset) (show (Tryz.prog.info? 38).map (·.size) = some vb.size by rw [hvt]; exact info_asset))
    clear hlen hb hall hlt hk ha hb' hka hkb oka okb hva hvb hvs hvt hh hh' hg hg'
    go_upto_region 6 with fail
    refine wp_region_noPanic (wp_region_held (S := fun V => V.rangeAt g (off + k * 34) va.toList ∧ V.rangeAt g' (off' + k * 34) vb.toList) (by kernel_rfl) ?_)
    change wpAnyH _ _ _ _ _ 9 _ _ (World.drew wr)
    have hcur := HR1.out _ HR.out.1.drew
    have hbd : Below w.heap.size w wr.drew := HR.out.1.drew
    have HBD := Lib.hid hbd
    clear hbd
    by_cases hab : a = b
    ·
     have hd : decide (a = b) = true := by simp [hab]
     have HAB := Lib.hid hab
     clear hab
     refine tk 0 (.slice (some ⟨g, off, none⟩) m.length c) 17 rfl rfl hcur ?_
     refine tk 1 (.int .i64 k) 18 rfl rfl hcur ?_
     refine tk 2 (.pointer (some ⟨g, off + k * 34, none⟩)) 19 rfl rfl hcur ?_ (by intro w' hS'; unfold execOp; simp [go_sem, m0, m1])
     refine tk 3 (.agg va) 20 rfl rfl hcur ?_ (by intro w' hS'; exact exec_loadM 38 _ rfl _ _ rfl va hS'.1 Tryz.underlying38 rfl HI.out.1)
     refine tk 4 (.slice (some ⟨g', off', none⟩) m.length e) 21 rfl rfl hcur ?_
     refine tk 5 (.int .i64 k) 22 rfl rfl hcur ?_
     refine tk 6 (.pointer (some ⟨g', off' + k * 34, none⟩)) 23 rfl rfl hcur ?_ (by intro w' hS'; unfold execOp; simp [go_sem, m0, m1])
     refine tk 7 (.agg vb) 24 rfl rfl hcur ?_ (by intro w' hS'; exact exec_loadM 38 _ rfl _ _ rfl vb hS'.2 Tryz.underlying38 rfl HI.out.2)
     refine tk 8 (.bool false) 25 rfl rfl hcur ?_ (by intro w' hS'; unfold execOp; simp [go_sem, heq, hd])
     refine wpAnyH_done (by kernel_rfl) ?_ _
     unfold NoPanic
     dsimp only
     clear hcur heq hd
     go_wp2_with fail
     have e1 : (k : Int) + 1 = ((k + 1 : Nat) : Int) := by omega
     rw [e1]
     refine ⟨⟨k + 1, HR.out.2.2.1, rfl, HBD.out, fun i hi => ?_⟩, ?_⟩
     ·
      by_cases e : i = k
      ·
       rw [e, HR.out.2.2.2.1, HR.out.2.2.2.2.1, HAB.out]
      ·
       exact HR.out.2.1 i (by omega)
     ·
      have h := HR.out.2.2.1
      show m.length - (k + 1) < m.length - k
      omega
    ·
     have hd : decide (a = b) = false := by simp [hab]
     have HAB := Lib.hid (show l ≠ m from fun e => hab (by
      have h1 := HR.out.2.2.2.1
      rw [e, HR.out.2.2.2.2.1] at h1
      exact (Option.some.inj h1).symm))
     clear hab
     refine tk 0 (.slice (some ⟨g, off, none⟩) m.length c) 17 rfl rfl hcur ?_
     refine tk 1 (.int .i64 k) 18 rfl rfl hcur ?_
     refine tk 2 (.pointer (some ⟨g, off + k * 34, none⟩)) 19 rfl rfl hcur ?_ (by intro w' hS'; unfold execOp; simp [go_sem, m0, m1])
     refine tk 3 (.agg va) 20 rfl rfl hcur ?_ (by intro w' hS'; exact exec_loadM 38 _ rfl _ _ rfl va hS'.1 Tryz.underlying38 rfl HI.out.1)
     refine tk 4 (.slice (some ⟨g', off', none⟩) m.length e) 21 rfl rfl hcur ?_
     refine tk 5 (.int .i64 k) 22 rfl rfl hcur ?_
     refine tk 6 (.pointer (some ⟨g', off' + k * 34, none⟩)) 23 rfl rfl hcur ?_ (by intro w' hS'; unfold execOp; simp [go_sem, m0, m1])
     refine tk 7 (.agg vb) 24 rfl rfl hcur ?_ (by intro w' hS'; exact exec_loadM 38 _ rfl _ _ rfl vb hS'.2 Tryz.underlying38 rfl HI.out.2)
     refine tk 8 (.bool true) 25 rfl rfl hcur ?_ (by intro w' hS'; unfold execOp; simp [go_sem, heq, hd])
     refine wpAnyH_done (by kernel_rfl) ?_ _
     unfold NoPanic
     dsimp only
     clear hcur heq hd
     go_wp2_with fail
     go_ret
     refine ⟨?_, HBD.out⟩
     rw [decide_eq_false HAB.out]
     rfl
   ·
    have e1 : k = m.length := by omega
    have HF := Lib.hid (And.intro hb (show l = m from List.ext_getElem? fun i => by
     by_cases hi : i < k
     ·
      exact hall i hi
     ·
      rw [List.getElem?_eq_none (by omega), List.getElem?_eq_none (by omega)]))
    have m1 : ¬ (k : Int) < (m.length : Int) := by omega
    clear hb hall e1 hk hlt hlen
    go_wp2_with fail
    go_ret
    refine ⟨?_, HF.out.1⟩
    rw [decide_eq_true HF.out.2]
    rfl
 ·
  have hne : ¬ (l.length : Int) = (m.length : Int) := by omega
  have HN := Lib.hid (show l ≠ m from fun e => hlen (by rw [e]))
  clear hlen
  go_enter Tryz.func56, Tryz.ntmps56
  go_wp2_with fail
  go_ret
  refine ⟨?_, Below.refl _ _⟩
  rw [decide_eq_false HN.out]
  rfl
def sameB (x y : Int) (l m : List As) : Bool := decide (x = y) && decide (l = m)
set_option maxHeartbeats 1000000 in
theorem sameV_any (w : World) (x y : Int) (pa pb : Option Addr) (l m : List As) (c e : Nat) (hl : Row w pa l) (hm : Row w pb m) :
  Calls Tryz.prog 12 #[.agg (vC x pa l.length c), .agg (vC y pb m.length e)] w fun e w' => e = .returned (.bool (sameB x y l m)) ∧ Below w.heap.size w w' := by
 have hli : (l.length : Int) ≤ 9223372036854775807 := by have := hl.1; unfold maxLen at this; omega
 have hmi : (m.length : Int) ≤ 9223372036854775807 := by have := hm.1; unfold maxLen at this; omega
 have hb1 : Below w.heap.size w ((w.alloc (.cells (vC x pa l.length c) 24)).alloc (.cells (vC y pb m.length e) 24)) := ((Below.refl _ _).alloc (Nat.le_refl _) _).alloc (by simp) _
 have hL1 : Lies ((w.alloc (.cells (vC x pa l.length c) 24)).alloc (.cells (vC y pb m.length e) 24)) w.heap.size (vC x pa l.length c) 24 := (Lies.new _ _ _).alloc _
 have hL2 : Lies ((w.alloc (.cells (vC x pa l.length c) 24)).alloc (.cells (vC y pb m.length e) 24)) (w.heap.size + 1) (vC y pb m.length e) 24 := by
  have := Lies.new (w.alloc (.cells (vC x pa l.length c) 24)) (vC y pb m.length e) 24
  simpa using this
 have hC := same_any _ pa pb l m c e (hl.below hb1 (Nat.le_refl _)) (hm.below hb1 (Nat.le_refl _))
 have H := Lib.hid (And.intro hC hb1)
 have c0 := hL1.cell 0 (v := .int .i64 x) rfl
 have c1 := hL1.cell 1 (v := .slice pa l.length c) rfl
 have d0 := hL2.cell 0 (v := .int .i64 y) rfl
 have d1 := hL2.cell 1 (v := .slice pb m.length e) rfl
 clear hl hm hC hb1 hL1 hL2
 unfold vC
 unfold vC at H c0 c1 d0 d1
 go_enter Tryz.func12, Tryz.ntmps12
 by_cases hxy : x = y
 ·
  have HV := Lib.hid (show sameB x y l m = decide (l = m) by unfold sameB; simp [hxy])
  subst hxy
  go_wp2_with fail
  refine H.out.1.mono ?_
  rintro e w2 ⟨rfl, hb2⟩
  go_wp2_with fail
  go_ret
  refine ⟨?_, H.out.2.trans (hb2.mono H.out.2.size)⟩
  rw [HV.out]
  rfl
 ·
  have HV := Lib.hid (show sameB x y l m = false by unfold sameB; simp [hxy])
  go_wp2_with fail
  go_ret
  refine ⟨?_, H.out.2⟩
  rw [HV.out]
  rfl
end Go.Proofs.YtjngghihciimjaaGreat
namespace Go.Proofs.YtjngghihciimjaaGreat
set_option maxRecDepth 100000
open Go.RowKit Go.Sort
theorem info_wide : (Tryz.prog.info? 48).map (·.size) = some 2 := by kernel_rfl
set_option maxHeartbeats 1000000 in
theorem wide_any (w : World) (n : Int) (h0 : -9223372036854775808 ≤ n) (h1 : n < 9223372036854775808) :
  Calls Tryz.prog 39 #[.int .i64 n] w fun e w' => e = .returned (wv (wide n)) ∧ Below w.heap.size w w' := by
 have HV := Lib.hid (And.intro (hi_wide n h0 h1) (lo_wide n))
 go_enter Tryz.func39, Tryz.ntmps39
 go_wp2
 have hb1 : Below w.heap.size w (w.alloc (.cells #[.int .i64 (n / 9223372036854775808), .int .u64 (IntKind.u64.wrap n)] 48)) := (Below.refl _ _).alloc (Nat.le_refl _) _
 have e : IntKind.u64.wrap n = (loN (wide n) : Int) := by rw [HV.out.2]; rfl
 refine bodyPost_ret (v := .agg #[.int .i64 (n / 9223372036854775808), .int .u64 (IntKind.u64.wrap n)]) (results_cell_row (p := 2) (ty := 48) (by kernel_rfl) _ _ w.heap.size 48 #[.int .i64 (n / 9223372036854775808), .int .u64 (IntKind.u64.wrap n)] (0, 0) _ rfl (Lies.new _ _ _) Tryz.underlying48 rfl info_wide) rfl ⟨?_, hb1⟩
 unfold wv
 rw [HV.out.1, e]
set_option maxHeartbeats 1000000 in
theorem amount_any (w : World) (x : BitVec 128) (hx : fitsW x = true) :
  Calls Tryz.prog 86 #[wv x] w fun e w' => e = .returned (.int .i64 x.toNat) ∧ Below w.heap.size w w' := by
 have hh := (fits_halves x).1 hx
 have hlo : (loN x : Int) ≤ 9223372036854775807 := by omega
 have hlo0 : (0 : Int) ≤ (loN x : Int) := by omega
 have HX := Lib.hid (show loN x = x.toNat by unfold fitsW at hx; rw [decide_eq_true_iff] at hx; unfold loN; omega)
 unfold wv
 rw [hh.1]
 have hb1 : Below w.heap.size w (w.alloc (.cells #[.int .i64 0, .int .u64 (loN x)] 48)) := (Below.refl _ _).alloc (Nat.le_refl _) _
 have H := Lib.hid hb1
 clear hh hb1 hx
 generalize loN x = lo at *
 go_enter Tryz.func86, Tryz.ntmps86
 go_wp2
 go_ret
 refine ⟨?_, H.out⟩
 rw [← HX.out]
 rfl
end Go.Proofs.YtjngghihciimjaaGreat
namespace Go.Proofs.YtjngghihciimjaaGreat
set_option maxRecDepth 100000
open Go.RowKit Go.Sort
theorem add64_run (x y : Int) (hx : 0 ≤ x) (hy : 0 ≤ y) (w : World) : (callFunc 76 #[.int .u64 x, .int .u64 y, .int .u64 0]).run Tryz.prog w =
  .ok (.value (.tuple #[.int .u64 ((x + y) % 18446744073709551616), .int .u64 ((x + y) / 18446744073709551616)])) w := by
 rw [run_callFunc_extern Tryz.func76 (by kernel_rfl) (by kernel_rfl) (by kernel_rfl) (e := add64Entry) (by kernel_rfl), run_add64 x y 0 hx hy (by decide) (by decide)]
 simp only [Int.add_zero]
 rfl
def wC (x : BitVec 128) : Array Value := #[.int .i64 (hiS x), .int .u64 (loN x)]
theorem wC_one (x : BitVec 128) : (wC x).all (·.oneCell') = true := by simp [wC, Value.oneCell']
theorem wC_zero : wC 0 = #[.int .i64 0, .int .u64 0] := by kernel_rfl
theorem wv_wC (x : BitVec 128) : wv x = .agg (wC x) := rfl
def HasW (w : World) (g off : Nat) (l : List (BitVec 128)) : Prop := ∀ (i : Nat) (x : BitVec 128), l[i]? = some x → w.rangeAt g (off + i * 2) (wC x).toList
theorem HasW.below {B : Nat} {w w' : World} {g off : Nat} {l : List (BitVec 128)} (h : HasW w g off l) (hb : Below B w w') (hg : g < B) : HasW w' g off l :=
 fun i a hi j v hv => (hb.cell (p := ⟨g, off + i * 2 + j, none⟩) hg).trans (h i a hi j v hv)
def sumL (l : List (BitVec 128)) : BitVec 128 := l.foldl (· + ·) 0
theorem sumL_take {l : List (BitVec 128)} {k : Nat} {x : BitVec 128} (h : l[k]? = some x) : sumL (l.take (k + 1)) = sumL (l.take k) + x := by
 unfold sumL
 rw [List.take_add_one, h, List.foldl_append]
 rfl
set_option maxHeartbeats 4000000 in
theorem plus_any (w : World) (g off c : Nat) (l : List (BitVec 128)) (hl : l.length ≤ maxLen) (hg : g < w.heap.size) (hs : HasW w g off l) :
  Calls Tryz.prog 36 #[.slice (some ⟨g, off, none⟩) l.length c] w fun e w' => e = .returned (wv (sumL l)) ∧ Below w.heap.size w w' := by
 have hli : (l.length : Int) ≤ 9223372036854775807 := by unfold maxLen at hl; omega
 have H := Lib.hid (And.intro hg hs)
 clear hl hg hs
 go_enter Tryz.func36, Tryz.ntmps36
 go_upto_region 3 with fail
 have hL1 : Lies ((w.alloc (.cells #[.int .i64 0, .int .u64 0] 48)).alloc (.cells #[.int .i64 0, .int .u64 0] 48)) w.heap.size #[.int .i64 0, .int .u64 0] 48 := (Lies.new _ _ _).alloc _
 have hL2 : Lies ((w.alloc (.cells #[.int .i64 0, .int .u64 0] 48)).alloc (.cells #[.int .i64 0, .int .u64 0] 48)) (w.heap.size + 1) (wC (sumL (l.take 0))) 48 := by
  have := Lies.new (w.alloc (.cells #[.int .i64 0, .int .u64 0] 48)) #[.int .i64 0, .int .u64 0] 48
  rw [show wC (sumL (l.take 0)) = #[.int .i64 0, .int .u64 0] from wC_zero]
  simpa using this
 have hb1 : Below w.heap.size w ((w.alloc (.cells #[.int .i64 0, .int .u64 0] 48)).alloc (.cells #[.int .i64 0, .int .u64 0] 48)) := ((Below.refl _ _).alloc (Nat.le_refl _) _).alloc (by simp) _
 generalize (w.alloc (.cells #[.int .i64 0, .int .u64 0] 48)).alloc (.cells #[.int .i64 0, .int .u64 0] 48) = W1 at hL1 hL2 hb1 ⊢
 go_loopw [10] (fun i W => ∃ k : Nat, k ≤ l.length ∧ i = .int .i64 k ∧ Below w.heap.size w W ∧ Lies W w.heap.size #[.int .i64 0, .int .u64 0] 48 ∧ Lies W (w.heap.size + 1) (wC (sumL (l.take k))) 48) (fun i _ => l.length - (intOf i).toNat)
 case atStart => exact ⟨0, Nat.zero_le _, rfl, hb1, hL1, hL2⟩
 case round =>
  clear hL1 hL2 hb1
  obtain ⟨k, hk, rfl, hb, z1, z2⟩ := hrel
  by_cases hlt : k < l.length
  ·
   have m1 : (k : Int) < (l.length : Int) := by omega
   have m0 : (0 : Int) ≤ (k : Int) := by omega
   obtain ⟨x, hx⟩ : ∃ x, x = l[k] := ⟨_, rfl⟩
   have hkx : l[k]? = some x := by rw [hx, List.getElem?_eq_getElem hlt]
   have hrg := (H.out.2.below hb H.out.1) k x hkx
   obtain ⟨s, hs⟩ : ∃ s, s = sumL (l.take k) := ⟨_, rfl⟩
   have hnext : sumL (l.take (k + 1)) = s + x := by rw [hs]; exact sumL_take hkx
   rw [← hs] at z2
   obtain ⟨vx, hvx⟩ : ∃ v, v = wC x := ⟨_, rfl⟩
   have hvs : vx.size = 2 := by rw [hvx]; rfl
   rw [← hvx] at hrg
   have HRG := Lib.hid hrg
   have HR := Lib.hid (And.intro hb (And.intro z1 (And.intro z2 (And.intro hlt (And.intro hnext (And.intro hvs hvx))))))
   clear hb z1 z2 hlt hk hx hkx hrg hs hnext hvx hvs
   go_upto_region 5 with (first
    | (refine wpList_load_mid rfl 48 _ rfl g (off + k * 2) rfl vx.toList _ HRG.out Tryz.underlying48 rfl (by rw [Array.length_toList, HR.out.2.2.2.2.2.1]; exact info_wide) ?_)
    | (refine wpList_store_row rfl 48 _ _ rfl wr.heap.size vx rfl rfl 48 #[.int .i64 0, .int .u64 0] (Lies.new wr _ 48) (by rw [HR.out.2.2.2.2.2.1]; exact info_wide) HR.out.2.2.2.2.2.1.symm (by rw [HR.out.2.2.2.2.2.2]; exact wC_one x) ?_))
   rw [World.setRow_alloc_new]
   have hL5 : Lies (wr.alloc (.cells vx 48)) wr.heap.size (wC x) 48 := by rw [HR.out.2.2.2.2.2.2]; exact Lies.new _ _ _
   have hL6 : Lies (wr.alloc (.cells vx 48)) (w.heap.size + 1) (wC s) 48 := HR.out.2.2.1.alloc _
   have hL7 : Lies (wr.alloc (.cells vx 48)) w.heap.size #[.int .i64 0, .int .u64 0] 48 := HR.out.2.1.alloc _
   have hb5 : Below w.heap.size w (wr.alloc (.cells vx 48)) := HR.out.1.alloc HR.out.1.size _
   have hne : w.heap.size + 1 ≠ wr.heap.size := by have := HR.out.2.2.1.lt; omega
   generalize wr.alloc (.cells vx 48) = W5 at hL5 hL6 hL7 hb5 ⊢
   have ch := hL6.cell 0 (v := .int .i64 (hiS s)) rfl
   have cl := hL6.cell 1 (v := .int .u64 (loN s)) rfl
   have dh := hL5.cell 0 (v := .int .i64 (hiS x)) rfl
   have dl := hL5.cell 1 (v := .int .u64 (loN x)) rfl
   have HL := Lib.hid (And.intro (loN_lt s) (And.intro (loN_lt x) (And.intro (hi_add s x) (lo_add s x))))
   have H5 := Lib.hid (And.intro hL5 (And.intro hL6 (And.intro hL7 (And.intro hb5 hne))))
   clear hL5 hL6 hL7 hb5 hne
   have hadd := fun W => add64_run (loN s : Int) (loN x : Int) (by omega) (by omega) W
   go_upto_region 6 with fail
   clear hadd
   go_upto_region 7 with (refine wpList_store_row rfl 48 _ _ rfl (w.heap.size + 1) _ rfl rfl 48 (wC s) H5.out.2.1 info_wide rfl (by simp [Value.oneCell']) ?_)
   have e1 : wrap64 (wrap64 (hiS s + hiS x) + wrap64 (((loN s : Int) + (loN x : Int)) / 18446744073709551616)) = hiS (s + x) := by
    rw [HL.out.2.2.1]
    have h1 := HL.out.1
    have h2 := HL.out.2.1
    simp only [IntKind.wrap_i64]
    unfold wrap64
    omega
   have e2 : ((loN s : Int) + (loN x : Int)) % 18446744073709551616 = (loN (s + x) : Int) := by
    rw [HL.out.2.2.2]
    omega
   rw [e1, e2]
   have hz : Lies (W5.setRow (w.heap.size + 1) (wC (s + x))) (w.heap.size + 1) (wC (sumL (l.take (k + 1)))) 48 := by rw [HR.out.2.2.2.2.1]; exact H5.out.2.1.setRow _
   have hz1 : Lies (W5.setRow (w.heap.size + 1) (wC (s + x))) w.heap.size #[.int .i64 0, .int .u64 0] 48 := H5.out.2.2.1.setRowOther _ _ (by omega)
   have hzb : Below w.heap.size w (W5.setRow (w.heap.size + 1) (wC (s + x))) := below_setRow H5.out.2.2.2.1 _ _ (by omega)
   have HZ := Lib.hid (And.intro hzb (And.intro hz1 hz))
   clear hz hz1 hzb ch cl dh dl e1 e2
   change Code.wp _ _ _ _ (W5.setRow (w.heap.size + 1) (wC (s + x)))
   generalize W5.setRow (w.heap.size + 1) (wC (s + x)) = W7 at HZ ⊢
   go_wp2_with fail
   have e1 : (k : Int) + 1 = ((k + 1 : Nat) : Int) := by omega
   rw [e1]
   refine ⟨⟨k + 1, HR.out.2.2.2.1, rfl, HZ.out⟩, ?_⟩
   have h := HR.out.2.2.2.1
   show l.length - (k + 1) < l.length - k
   omega
  ·
   have e1 : k = l.length := by omega
   have m1 : ¬ (k : Int) < (l.length : Int) := by omega
   rw [e1, List.take_length] at z2
   have HF := Lib.hid (And.intro hb (And.intro z1 z2))
   have c0 := z2.cell 0 (v := .int .i64 (hiS (sumL l))) rfl
   have c1 := z2.cell 1 (v := .int .u64 (loN (sumL l))) rfl
   clear hb z1 z2 hk hlt e1
   go_wp2_with (refine wpList_store_row rfl 48 _ _ rfl w.heap.size (wC (sumL l)) rfl rfl 48 #[.int .i64 0, .int .u64 0] HF.out.2.1 info_wide rfl (wC_one _) ?_)
   refine bodyPost_ret (v := wv (sumL l)) (results_cell_row (p := 2) (ty := 48) (by kernel_rfl) _ _ w.heap.size 48 (wC (sumL l)) (0, 0) _ rfl (HF.out.2.1.setRow _) Tryz.underlying48 rfl info_wide) rfl ⟨rfl, below_setRow HF.out.1 _ _ (Nat.le_refl _)⟩
end Go.Proofs.YtjngghihciimjaaGreat
namespace Go.Proofs.YtjngghihciimjaaGreat
set_option maxRecDepth 100000
open Go.RowKit Go.Sort
structure To where
 nm : Nm
 w : BitVec 128
def toC (a : To) : Array Value := B8 a.nm.1 ++ #[.string (txt a.nm.2), .int .i64 (hiS a.w), .int .u64 (loN a.w)]
def ToOk (a : To) : Prop := a.nm.1.length = 32 ∧ a.nm.2.length ≤ maxLen
theorem toC_size (a : To) (h : a.nm.1.length = 32) : (toC a).size = 35 := by simp [toC, B8_size, h]
theorem toC_one (a : To) : (toC a).all (·.oneCell') = true := by
 unfold toC
 rw [Array.all_append, B8_one]
 simp [Value.oneCell']
theorem toC_get (a : To) (h : a.nm.1.length = 32) (j : Nat) (hj : j < 32) : (toC a)[j]? = some (.int .u8 (a.nm.1.getD j 0).toNat) := by
 unfold toC
 rw [Array.getElem?_append_left (by rw [B8_size]; omega)]
 exact B8_get _ _ (by omega)
theorem toC_txt (a : To) (h : a.nm.1.length = 32) : (toC a)[32]? = some (.string (txt a.nm.2)) := by
 unfold toC
 rw [Array.getElem?_append_right (by rw [B8_size]; omega), B8_size, h]
 rfl
theorem toC_hi (a : To) (h : a.nm.1.length = 32) : (toC a)[33]? = some (.int .i64 (hiS a.w)) := by
 unfold toC
 rw [Array.getElem?_append_right (by rw [B8_size]; omega), B8_size, h]
 rfl
theorem toC_lo (a : To) (h : a.nm.1.length = 32) : (toC a)[34]? = some (.int .u64 (loN a.w)) := by
 unfold toC
 rw [Array.getElem?_append_right (by rw [B8_size]; omega), B8_size, h]
 rfl
theorem info_total : (Tryz.prog.info? 75).map (·.size) = some 35 := by kernel_rfl
attribute [-go_sem] Instr.build
set_option maxHeartbeats 1000000 in
theorem callTotal_gro (w : World) (a : To) (ha : a.nm.1.length = 32) :
  Calls Tryz.prog 75 #[.agg (toC a)] w fun e w' => e = .returned (.agg (nmC a.nm)) ∧ Below w.heap.size w w' ∧ w.drawn ≤ w'.drawn := by
 obtain ⟨va, hva⟩ : ∃ v, v = toC a := ⟨_, rfl⟩
 obtain ⟨z, hz⟩ : ∃ z, z = z33 := ⟨_, rfl⟩
 rw [← hva]
 have HA := Lib.hid (And.intro hva (And.intro ha hz))
 clear hva ha
 go_enter Tryz.func75, Tryz.ntmps75
 go_upto_region 1 with fail
 rw [show (#[Value.int .u8 0, .int .u8 0, .int .u8 0, .int .u8 0, .int .u8 0, .int .u8 0, .int .u8 0, .int .u8 0, .int .u8 0, .int .u8 0, .int .u8 0, .int .u8 0, .int .u8 0, .int .u8 0, .int .u8 0, .int .u8 0, .int .u8 0, .int .u8 0, .int .u8 0, .int .u8 0, .int .u8 0, .int .u8 0, .int .u8 0, .int .u8 0, .int .u8 0, .int .u8 0, .int .u8 0, .int .u8 0, .int .u8 0, .int .u8 0, .int .u8 0, .int .u8 0, .string ⟨#[]⟩] : Array Value) = z from by rw [hz]; kernel_rfl]
 have hl1 : Lies ((w.alloc (.cells va 75)).alloc (.cells z 86)) w.heap.size va 75 := (Lies.new _ _ _).alloc _
 have hl2 : Lies ((w.alloc (.cells va 75)).alloc (.cells z 86)) (w.heap.size + 1) z 86 := by
  have := Lies.new (w.alloc (.cells va 75)) z 86
  simpa using this
 have hb0 : Below w.heap.size w ((w.alloc (.cells va 75)).alloc (.cells z 86)) := ((Below.refl _ _).alloc (Nat.le_refl _) _).alloc (by simp) _
 have HD0 : Hid (w.drawn ≤ ((w.alloc (.cells va 75)).alloc (.cells z 86)).drawn) := Lib.hid (Nat.le_refl _)
 generalize (w.alloc (.cells va 75)).alloc (.cells z 86) = W0 at hl1 hl2 hb0 HD0 ⊢
 rw [HA.out.1] at hl1
 have hp : Src W0 w.heap.size 0 a.nm.1 := fun j hj => by
  rw [Nat.zero_add]
  exact hl1.cell j (toC_get a HA.out.2.1 j (by rw [← HA.out.2.1]; exact hj))
 have c32 := hl1.cell 32 (toC_txt a HA.out.2.1)
 have HP := Lib.hid (And.intro (pol_range hp) (And.intro hl2 hb0))
 have hnm : nmC a.nm = B8 a.nm.1 ++ #[.string (txt a.nm.2)] := rfl
 have hsz : (B8 a.nm.1).size = 32 := by rw [B8_size]; exact HA.out.2.1
 have HN := Lib.hid (And.intro hnm (And.intro hsz (nmC_size a.nm HA.out.2.1)))
 obtain ⟨pv, hpv⟩ : ∃ v, v = B8 a.nm.1 := ⟨_, rfl⟩
 obtain ⟨tv, htv⟩ : ∃ v, v = txt a.nm.2 := ⟨_, rfl⟩
 obtain ⟨nv, hnv⟩ : ∃ v, v = nmC a.nm := ⟨_, rfl⟩
 have hbl : ∀ W, (Instr.build 86 #[(0, .agg pv), (1, .string tv)]).run Tryz.prog W = .ok (.agg nv) W := fun W => by
  rw [hpv, htv, hnv]
  exact run_build W 86 _ _ (built_called a.nm.1 HA.out.2.1 (txt a.nm.2))
 rw [← hpv] at HP HN
 rw [← htv] at c32
 rw [← hnv] at HN
 have HV := Lib.hid (And.intro hpv hnv)
 clear hl1 hl2 hb0 hp hz hnm hsz hpv htv hnv
 go_wp2_with (first
  | (refine wpList_load_mid rfl 26 _ rfl w.heap.size 0 rfl pv.toList _ HP.out.1 Tryz.underlying26 rfl (by rw [Array.length_toList, HN.out.2.1]; exact info_hash) ?_)
  | (refine wpList_store_row rfl 86 _ _ rfl (w.heap.size + 1) nv rfl rfl 86 z HP.out.2.1 (by rw [HN.out.2.2]; exact info_called) (by rw [HN.out.2.2, HA.out.2.2]; rfl) (by rw [HV.out.2]; exact nmC_one _) ?_))
 refine bodyPost_ret (v := .agg nv) (results_cell_row (p := 2) (ty := 86) (by kernel_rfl) _ _ (w.heap.size + 1) 86 nv (0, 0) _ rfl (HP.out.2.1.setRow _) Tryz.underlying86 rfl (by rw [HN.out.2.2]; exact info_called)) rfl ⟨by rw [HV.out.2], below_setRow HP.out.2.2 _ _ (by omega), HD0.out⟩
theorem callTotal_any (w : World) (a : To) (ha : a.nm.1.length = 32) :
  Calls Tryz.prog 75 #[.agg (toC a)] w fun e w' => e = .returned (.agg (nmC a.nm)) ∧ Below w.heap.size w w' :=
 (callTotal_gro w a ha).mono fun _ _ h => ⟨h.1, h.2.1⟩
theorem ret_gro {P : Program} {f : FuncId} {args : Array Value} {w : World} {v : Value} {R : World → Prop} (h : Calls P f args w fun e w' => e = .returned v ∧ R w') : Calls P f args w fun e w' => ∃ u, e = .returned u ∧ (u = v ∧ R w') :=
 h.mono fun _ _ h => ⟨v, h.1, rfl, h.2⟩
set_option maxHeartbeats 2000000 in
theorem cmpTotal_gro (w : World) (a b : To) (ha : a.nm.1.length = 32) (hb : b.nm.1.length = 32) :
  Calls Tryz.prog 124 #[.agg (toC a), .agg (toC b)] w fun e w' => e = .returned (.int .i64 (cN a.nm b.nm)) ∧ Below w.heap.size w w' ∧ w.drawn ≤ w'.drawn := by
 obtain ⟨va, hva⟩ : ∃ v, v = toC a := ⟨_, rfl⟩
 obtain ⟨vb, hvb⟩ : ∃ v, v = toC b := ⟨_, rfl⟩
 obtain ⟨na, hna⟩ : ∃ v, v = nmC a.nm := ⟨_, rfl⟩
 obtain ⟨nb, hnb⟩ : ∃ v, v = nmC b.nm := ⟨_, rfl⟩
 obtain ⟨z, hz⟩ : ∃ z, z = cN a.nm b.nm := ⟨_, rfl⟩
 have hca : ∀ W, Calls Tryz.prog 75 #[.agg va] W fun e w' => e = .returned (.agg na) ∧ Below W.heap.size W w' ∧ W.drawn ≤ w'.drawn := fun W => by
  rw [hva, hna]; exact callTotal_gro W a ha
 have hcb : ∀ W, Calls Tryz.prog 75 #[.agg vb] W fun e w' => e = .returned (.agg nb) ∧ Below W.heap.size W w' ∧ W.drawn ≤ w'.drawn := fun W => by
  rw [hvb, hnb]; exact callTotal_gro W b hb
 have hord : ∀ W, Calls Tryz.prog 89 #[.agg na, .agg nb] W fun e w' => e = .returned (.int .i64 z) ∧ Below W.heap.size W w' ∧ W.drawn ≤ w'.drawn := fun W => by
  rw [hna, hnb, hz]; exact order_gro W a.nm b.nm ha hb
 have hia : (Tryz.prog.info? 75).map (·.size) = some va.size := by rw [hva, toC_size a ha]; exact info_total
 have hib : (Tryz.prog.info? 75).map (·.size) = some vb.size := by rw [hvb, toC_size b hb]; exact info_total
 rw [← hva, ← hvb, ← hz]
 have H := Lib.hid (And.intro hca (And.intro hcb (And.intro hord (And.intro hia hib))))
 clear hva hvb hna hnb hz hca hcb hord hia hib ha hb
 go_enter Tryz.func124, Tryz.ntmps124
 go_upto_region 1 with fail
 have hl1 : Lies ((w.alloc (.cells va 75)).alloc (.cells vb 75)) w.heap.size va 75 := (Lies.new _ _ _).alloc _
 have hl2 : Lies ((w.alloc (.cells va 75)).alloc (.cells vb 75)) (w.heap.size + 1) vb 75 := by
  have := Lies.new (w.alloc (.cells va 75)) vb 75
  simpa using this
 have hb0 : Below w.heap.size w ((w.alloc (.cells va 75)).alloc (.cells vb 75)) := ((Below.refl _ _).alloc (Nat.le_refl _) _).alloc (by simp) _
 have HD0 : Hid (w.drawn ≤ ((w.alloc (.cells va 75)).alloc (.cells vb 75)).drawn) := Lib.hid (Nat.le_refl _)
 generalize (w.alloc (.cells va 75)).alloc (.cells vb 75) = W0 at hl1 hl2 hb0 HD0 ⊢
 have HS : Hid (∀ V, Below W0.heap.size W0 V → Lies V w.heap.size va 75 ∧ Lies V (w.heap.size + 1) vb 75) := Lib.hid fun V hV => ⟨hl1.below hV hl1.lt, hl2.below hV hl2.lt⟩
 have H0 := Lib.hid hb0
 clear hl1 hl2 hb0
 refine wp_region_noPanic (wp_region_held (S := fun V => Lies V w.heap.size va 75 ∧ Lies V (w.heap.size + 1) vb 75) (by kernel_rfl) ?_)
 change wpAnyH _ _ _ _ _ 6 _ _ (World.drew W0)
 have hbd : Below W0.heap.size W0 W0.drew := (Below.refl _ _).drew
 have hcur := HS.out _ hbd
 refine tk 0 (.agg va) 5 rfl rfl hcur ?_ (by intro w' hS'; exact exec_loadM 75 _ rfl _ _ rfl va (range_lies hS'.1) Tryz.underlying75 rfl H.out.2.2.2.1)
 refine tk 2 (.agg vb) 7 rfl rfl hcur ?_ (by intro w' hS'; exact exec_loadM 75 _ rfl _ _ rfl vb (range_lies hS'.2) Tryz.underlying75 rfl H.out.2.2.2.2)
 refine held_one (i := 1) (by kernel_rfl) _ rfl (wpOp_callG rfl (by rfl) 6 rfl 75 #[.agg va] (by unfold execOp; simp [go_sem]) _ (ret_gro (H.out.1 _)) ?_)
 rintro v1 w1 ⟨rfl, hb1, hd1⟩
 have hc1 := hbd.trans (hb1.mono hbd.size)
 have hcur := HS.out _ hc1
 refine ⟨hcur, ?_⟩
 simp only [Act.put, List.setIfInBounds_toArray, List.set_cons_zero, List.set_cons_succ]
 refine held_one (i := 3) (by kernel_rfl) _ rfl (wpOp_callG rfl (by rfl) 8 rfl 75 #[.agg vb] (by unfold execOp; simp [go_sem]) _ (ret_gro (H.out.2.1 _)) ?_)
 rintro v2 w2 ⟨rfl, hb2, hd2⟩
 have hc2 := hc1.trans (hb2.mono hc1.size)
 have hcur := HS.out _ hc2
 refine ⟨hcur, ?_⟩
 simp only [Act.put, List.setIfInBounds_toArray, List.set_cons_zero, List.set_cons_succ]
 refine held_one (i := 4) (by kernel_rfl) _ rfl (wpOp_callG rfl (by rfl) 9 rfl 89 #[.agg na, .agg nb] (by unfold execOp; simp [go_sem]) _ (ret_gro (H.out.2.2.1 _)) ?_)
 rintro v3 w3 ⟨rfl, hb3, hd3⟩
 have hc3 := hc2.trans (hb3.mono hc2.size)
 have hcur := HS.out _ hc3
 refine ⟨hcur, ?_⟩
 simp only [Act.put, List.setIfInBounds_toArray, List.set_cons_zero, List.set_cons_succ]
 refine tk 5 (.int .i64 z) 4 rfl rfl hcur ?_
 refine wpAnyH_done (by kernel_rfl) ?_ _
 unfold NoPanic
 dsimp only
 have HB := Lib.hid (And.intro (H0.out.trans (hc3.mono H0.out.size)) (Nat.le_trans HD0.out (Nat.le_trans (Nat.le_succ _) (Nat.le_trans hd1 (Nat.le_trans hd2 hd3)))))
 clear hcur hbd hb1 hb2 hb3 hc1 hc2 hc3 hd1 hd2 hd3
 go_wp2_with fail
 go_ret
 exact ⟨rfl, HB.out⟩
theorem cells48 : Tryz.prog.cellsOf 75 = 35 := by kernel_rfl
theorem cells39 : Tryz.prog.cellsOf 48 = 2 := by kernel_rfl
theorem cells37 : Tryz.prog.cellsOf 46 = 1 := by kernel_rfl
theorem keyed_total : Tryz.prog.keyTypeAt 5 75 = true := by kernel_rfl
theorem keyed_wide : Tryz.prog.keyTypeAt 5 48 = true := by kernel_rfl
def litW (x : BitVec 128) : List Lit := [.int .i64 (hiS x), .int .u64 (loN x)]
theorem litW_inj {x y : BitVec 128} (h : litW x = litW y) : x = y := by
 unfold litW at h
 simp only [List.cons.injEq, Lit.int.injEq, true_and, and_true] at h
 exact w_inj h.1 (by omega)
theorem lits_w (d : Nat) (x : BitVec 128) : Tryz.prog.keyLits (d + 2) 48 (wC x).toList = some (litW x) := by
 have h1 : (Lit.int .i64 (hiS x)).wf = true := by
  have := hiS_lo x
  show (decide ((-9223372036854775808 : Int) ≤ hiS x) && decide (hiS x ≤ 9223372036854775807)) = true
  rw [Bool.and_eq_true_iff, decide_eq_true_iff, decide_eq_true_iff]
  omega
 have h2 : (Lit.int .u64 (loN x : Int)).wf = true := by
  have := loN_lt x
  show (decide ((0 : Int) ≤ (loN x : Int)) && decide ((loN x : Int) ≤ 18446744073709551615)) = true
  rw [Bool.and_eq_true_iff, decide_eq_true_iff, decide_eq_true_iff]
  omega
 unfold Program.keyLits
 simp only [Tryz.underlying48, cells39, wC, List.length_cons, List.length_nil]
 rw [if_pos ⟨trivial, by kernel_rfl⟩]
 simp [Program.keyLits, Tryz.underlying2, Tryz.underlying46, cells2, cells37, h1, h2, litW]
end Go.Proofs.YtjngghihciimjaaGreat
