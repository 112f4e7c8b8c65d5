/-
  WotsDigits: the closed statement's walk.
-/
import Derived.Test.YtgempifedhiknaaDoorWrs
import Derived.Test.YtgempifedhiknaaDoorWowns
namespace Go.Proofs.YtgempifedhiknaaDoor
open Go.RowKit Go.Shelf Sha

set_option maxHeartbeats 1000000 in
theorem same_any (F : List UInt8) (hF : F.length = 1120) (g1 c1 g2 c2 : Nat) (w : World) (h1 : g1 < w.heap.size) (s1 : Src w g1 0 F) (h2 : g2 < w.heap.size) (s2 : Src w g2 0 F) :
    Calls Tryd.prog 13 #[.agg #[.slice (some ⟨g1, 0, none⟩) 35 c1], .agg #[.slice (some ⟨g2, 0, none⟩) 35 c2]] w fun e w' => e = .returned (.bool true) ∧ Below w.heap.size w w' := by
  have hb : Below w.heap.size w ((w.alloc (.cells #[.slice (some ⟨g1, 0, none⟩) 35 c1] 24)).alloc (.cells #[.slice (some ⟨g2, 0, none⟩) 35 c2] 24)) := ((Below.refl _ _).alloc (Nat.le_refl _) _).alloc (by simp) _
  have hsh := samehashes_any F 35 hF (by omega) (some ⟨g1, 0, none⟩) (some ⟨g2, 0, none⟩) c1 c2 ((w.alloc (.cells #[.slice (some ⟨g1, 0, none⟩) 35 c1] 24)).alloc (.cells #[.slice (some ⟨g2, 0, none⟩) 35 c2] 24))
    (fun _ => ⟨g1, 0, rfl, Nat.lt_of_lt_of_le h1 hb.size, fun j hj => (hb.cell (p := ⟨g1, 0 + j, none⟩) h1).trans (s1 j hj)⟩) (fun _ => ⟨g2, 0, rfl, Nat.lt_of_lt_of_le h2 hb.size, fun j hj => (hb.cell (p := ⟨g2, 0 + j, none⟩) h2).trans (s2 j hj)⟩)
  have HSH := Lib.hid (And.intro hsh hb)
  clear hsh hb s1 s2 h1 h2 hF
  go_enter Tryd.func13, Tryd.ntmps13
  go_wp2_with fail
  refine HSH.out.1.mono ?_
  rintro e w3 ⟨rfl, hb3⟩
  have hbb := HSH.out.2.trans (hb3.mono HSH.out.2.size)
  clear hb3
  go_wp2_with fail
  go_ret
  exact ⟨rfl, hbb⟩
/-- A message of one byte, one place turned. -/
def turnM (c : Nat) : List UInt8 := (fullM (UInt8.ofNat c)).set (c % 32) (UInt8.ofNat (255 - c))
theorem turnM_length (c : Nat) : (turnM c).length = 32 := by simp [turnM, fullM]
def seed7 : List UInt8 := [7]
/-- Marks of the first n bytes. -/
def byteHs (n : Nat) : List UInt8 := (List.range n).flatMap fun i => markH (UInt8.ofNat i)
theorem byteHs_succ (n : Nat) : byteHs (n + 1) = byteHs n ++ markH (UInt8.ofNat n) := by simp [byteHs, List.range_succ]
theorem byteHs_length (n : Nat) : (byteHs n).length = 32 * n := by
  induction n with
  | zero => rfl
  | succ n ih => rw [byteHs_succ, List.length_append, ih, markH_length]; omega
theorem wpList_moreH {B k : Nat} {l : List UInt8} {v : Value} {w : World} {ops : Array Oper} {rest : List Oper} {o : Oper} {a : Act} {Q : Exit → Act → World → Prop} (hgd : o.guard = none) (sx x : Operand)
    (ho : o.op = .call { callee := .builtin .append, args := #[sx, x], argTypes := #[22, 22] }) (d : Tmp) (hd : o.dst = some d) (hs : a.eval sx = v) (g : Nat) (h : List UInt8) (hh : h.length = 32) (hx : a.eval x = .slice (some ⟨g, 0, none⟩) 1 1) (hl : Lies w g (B8 h) 26)
    (hr : RowH B k l v w) (hk : k ≤ 1000) (hB : B ≤ w.heap.size)
    (kk : ∀ v' w', RowH B (k + 1) (l ++ h) v' w' → w.grownBy w' v.ownBlock → wpList Tryd.prog ops Q rest (a.put (some d) v') w') : wpList Tryd.prog ops Q (o :: rest) a w := by
  obtain ⟨v', w', hrun, hrow, hg, _⟩ := run_moreH hr hk hB g h hh hl o.type
  refine wpList_plain hgd fun K hK => ?_
  unfold Oper.wp
  rw [exec_moreH sx x ho hs hx hrun, Oper.upon_value, hd]
  exact hK _ _ (kk v' w' hrow hg)
set_option maxRecDepth 100000 in
set_option maxHeartbeats 4000000 in
theorem digits4_any (w : World) (hs : Starts w) (hc : Cubes w) : Calls Tryd.prog 4 #[] w fun e w' => e = .returned (.bool true) ∧ Below w.heap.size w w' := by
  have HSC := Lib.hid (And.intro hs hc)
  clear hs hc
  go_enter Tryd.func4, Tryd.ntmps4
  go_upto_region 2 with fail
  have hb0 : Below w.heap.size w (w.alloc (.cells #[.int .u8 7] 5)) := (Below.refl _ _).alloc (Nat.le_refl _) _
  have hl0 : Lies (w.alloc (.cells #[.int .u8 7] 5)) w.heap.size (B8 seed7) 5 := Lies.new _ _ _
  have h1n := Lies.lt HSC.out.2
  generalize w.alloc (.cells #[.int .u8 7] 5) = W0 at hb0 hl0 ⊢
  have hk : ∀ V, Below W0.heap.size W0 V → Starts V ∧ Cubes V ∧ Below w.heap.size w V ∧ Good V ⟨some ⟨w.heap.size, 0, none⟩, seed7, 1⟩ := fun V hV => by
    have hbv := hb0.trans (hV.mono hb0.size)
    have hlv := hl0.below hV hl0.lt
    exact ⟨HSC.out.1.below hbv (by omega), HSC.out.2.below hbv h1n, hbv, ⟨Nat.le_refl _, by simp [maxLen], fun _ => ⟨_, 0, rfl, hlv.lt, fun j hj => by rw [Nat.zero_add]; exact hlv.cell j (B8_get _ j hj)⟩⟩⟩
  have HK := Lib.hid hk
  clear hb0 hl0 hk h1n
  go_wp2_with fail
  go_loopw [2] (fun i W => ∃ j : Nat, j ≤ 18 ∧ i = .int .i64 ((15 * j : Nat) : Int) ∧ Below W0.heap.size W0 W) (fun i _ => 300 - (intOf i).toNat)
  case atStart => exact ⟨0, by omega, rfl, Below.refl _ _⟩
  case round =>
    obtain ⟨j, hj, rfl, hbr⟩ := hrel
    obtain ⟨c, hcj⟩ : ∃ c, c = 15 * j := ⟨_, rfl⟩
    rw [← hcj]
    have HB := Lib.hid (And.intro hbr (And.intro hcj hj))
    clear hbr
    by_cases hlt : c < 256
    · have m1 : (c : Int) < 256 := by omega
      have m0 : (0 : Int) ≤ (c : Int) := by omega
      have hw1 : IntKind.u8.wrap (c : Int) = (c : Int) := by show (c : Int) % 256 = _; omega
      have hfull := full_any (UInt8.ofNat c) wr
      have hcn : (UInt8.ofNat c).toNat = c := by simp; omega
      rw [hcn] at hfull
      obtain ⟨f, hf⟩ : ∃ f, f = fullM (UInt8.ofNat c) := ⟨_, rfl⟩
      have hfl : f.length = 32 := by rw [hf]; simp [fullM]
      rw [← hf] at hfull
      have HF := Lib.hid (And.intro hfull (And.intro hf (And.intro hfl hlt)))
      clear hfull hf hfl hcn hcj hj hlt
      go_wp2_with fail
      refine HF.out.1.mono ?_
      rintro e w4 ⟨rfl, hb4⟩
      have hfs : (B8 f).size = 32 := by rw [B8_size]; exact HF.out.2.2.1
      have HB4 := Lib.hid (And.intro (HB.out.1.trans (hb4.mono HB.out.1.size)) hfs)
      clear hb4 hfs
      go_upto_region 6 with (refine wpList_store_row rfl 26 _ _ rfl w4.heap.size (B8 f) rfl rfl 26 zero32 (Lies.new w4 zero32 26) (by rw [HB4.out.2]; kernel_rfl) (by rw [HB4.out.2]; rfl) (B8_one _) ?_; simp only [Act.put])
      have hl5 : Lies ((w4.alloc (.cells zero32 26)).setRow w4.heap.size (B8 f)) w4.heap.size (B8 f) 26 := (Lies.new w4 zero32 26).setRow _
      have hb5 : Below W0.heap.size W0 ((w4.alloc (.cells zero32 26)).setRow w4.heap.size (B8 f)) := below_setRow (HB4.out.1.alloc HB4.out.1.size _) _ _ HB4.out.1.size
      have hge : W0.heap.size ≤ w4.heap.size := HB4.out.1.size
      simp only [zero32] at hl5 hb5
      generalize (w4.alloc (.cells #[Value.int .u8 0, .int .u8 0, .int .u8 0, .int .u8 0, .int .u8 0, .int .u8 0, .int .u8 0, .int .u8 0, .int .u8 0, .int .u8 0, .int .u8 0, .int .u8 0, .int .u8 0, .int .u8 0, .int .u8 0, .int .u8 0, .int .u8 0, .int .u8 0, .int .u8 0, .int .u8 0, .int .u8 0, .int .u8 0, .int .u8 0, .int .u8 0, .int .u8 0, .int .u8 0, .int .u8 0, .int .u8 0, .int .u8 0, .int .u8 0, .int .u8 0, .int .u8 0] 26)).setRow w4.heap.size (B8 f) = W5 at hl5 hb5 ⊢
      generalize w4.heap.size = b5 at hl5 hge ⊢
      obtain ⟨p, hp⟩ : ∃ p, p = c % 32 := ⟨_, rfl⟩
      obtain ⟨q, hq⟩ : ∃ q, q = 255 - c := ⟨_, rfl⟩
      have ep : (c : Int) % 32 = (p : Int) := by omega
      have eq1 : 255 - (c : Int) = (q : Int) := by have := HF.out.2.2.2; omega
      have p0 : (0 : Int) ≤ (p : Int) := by omega
      have p1 : (p : Int) < 32 := by omega
      have hwq : IntKind.u8.wrap (q : Int) = (q : Int) := by show (q : Int) % 256 = _; omega
      have c5 := hl5.cell p (B8_get f p (by rw [HF.out.2.2.1]; omega))
      have f5 := hl5.free p
      have hqn : (UInt8.ofNat q).toNat = q := by simp; omega
      have hl6 := hl5.set p (.int .u8 (UInt8.ofNat q).toNat)
      rw [B8_set, HF.out.2.1, hp, hq] at hl6
      have hl6' : Lies (W5.setCell ⟨b5, p, none⟩ (.int .u8 q)) b5 (B8 (turnM c)) 26 := by
        rw [← hqn]
        rw [hp, hq]
        exact hl6
      have H6 := Lib.hid (And.intro hl6' (hb5.setCell (p := ⟨b5, p, none⟩) hge (.int .u8 q)))
      have HPQ := Lib.hid (And.intro hp hq)
      generalize (f.getD p 0).toNat = y at c5
      clear hl5 hb5 hge hqn hl6 hl6' hp hq
      go_upto_region 7 with fail
      generalize W5.setCell ⟨b5, p, none⟩ (.int .u8 q) = W6 at H6 ⊢
      obtain ⟨tv, htv⟩ : ∃ tv, tv = B8 (turnM c) := ⟨_, rfl⟩
      have hts : tv.size = 32 := by rw [htv, B8_size, turnM_length]
      have hts2 : (Tryd.prog.info? 26).map (·.size) = some tv.toList.length := by rw [Array.length_toList, hts]; kernel_rfl
      have HTV := Lib.hid (And.intro htv hts2)
      have HLT := Lib.hid (show ∀ V, Below W6.heap.size W6 V → V.rangeAt b5 0 tv.toList from fun V hV => by rw [htv]; exact range_lies (H6.out.1.below hV H6.out.1.lt))
      have HT := Lib.hid (show ∀ V, Below W6.heap.size W6 V → Below W0.heap.size W0 V from fun V hV => H6.out.2.trans (hV.mono H6.out.2.size))
      clear htv hts hts2 c5 f5 ep eq1 hwq
      refine wp_region_held (S := Below W6.heap.size W6) (by kernel_rfl) ?_
      change wpAnyH _ _ _ _ _ 8 _ _ (World.drew W6)
      have hcur : Below W6.heap.size W6 W6.drew := (Below.refl _ _).drew
      refine held_take (i := 0) (v := .slice (some ⟨w.heap.size, 0, none⟩) 1 1) rfl 24 rfl (by kernel_rfl) (by kernel_rfl) (by kernel_rfl) (fun _ _ _ h => h) (by rfl) (by intro w' hS'; unfold execOp; simp [go_sem]) hcur _ rfl ?_
      simp only [Act.put, List.setIfInBounds_toArray, List.set_cons_zero, List.set_cons_succ]
      refine held_take (i := 1) (v := .agg tv) rfl 25 rfl (by kernel_rfl) (by kernel_rfl) (by kernel_rfl) (fun _ _ _ h => h) (by rfl) (by intro w' hS'; exact exec_loadA _ rfl _ _ rfl (HLT.out _ hS') HTV.out.2) hcur _ rfl ?_
      simp only [Act.put, List.setIfInBounds_toArray, List.set_cons_zero, List.set_cons_succ]
      refine held_take (i := 3) (v := .slice (some ⟨w.heap.size, 0, none⟩) 1 1) rfl 27 rfl (by kernel_rfl) (by kernel_rfl) (by kernel_rfl) (fun _ _ _ h => h) (by rfl) (by intro w' hS'; unfold execOp; simp [go_sem]) hcur _ rfl ?_
      simp only [Act.put, List.setIfInBounds_toArray, List.set_cons_zero, List.set_cons_succ]
      refine held_take (i := 4) (v := .agg tv) rfl 28 rfl (by kernel_rfl) (by kernel_rfl) (by kernel_rfl) (fun _ _ _ h => h) (by rfl) (by intro w' hS'; exact exec_loadA _ rfl _ _ rfl (HLT.out _ hS') HTV.out.2) hcur _ rfl ?_
      simp only [Act.put, List.setIfInBounds_toArray, List.set_cons_zero, List.set_cons_succ]
      refine held_one (i := 2) (by kernel_rfl) _ rfl (wpOp_callTo rfl rfl 26 rfl 14 #[.slice (some ⟨w.heap.size, 0, none⟩) 1 1, .agg tv] (by unfold execOp; simp [go_sem]) (fun v w' => SigV (signL seed7 (turnM c)) v w' ∧ Below W6.heap.size W6 w') (by rw [HTV.out.1]; exact (sign_any W6.drew (some ⟨w.heap.size, 0, none⟩) seed7 1 (turnM c) (turnM_length c) (by simp [seed7]) (HK.out _ (HT.out _ hcur)).2.2.2 (HK.out _ (HT.out _ hcur)).1 (HK.out _ (HT.out _ hcur)).2.1).mono fun e w' ⟨v, he, hr, hbb⟩ => ⟨_, he, sigv_of hr, Below.trans hcur (hbb.mono hcur.size)⟩) ?_)
      rintro va wa ⟨hs_va, hb_va⟩
      refine ⟨hb_va, ?_⟩
      simp only [Act.put, List.setIfInBounds_toArray, List.set_cons_zero, List.set_cons_succ]
      refine held_one (i := 5) (by kernel_rfl) _ rfl (wpOp_callTo rfl rfl 29 rfl 15 #[.slice (some ⟨w.heap.size, 0, none⟩) 1 1, .agg tv] (by unfold execOp; simp [go_sem]) (fun v w' => SigV (signL seed7 (turnM c)) v w' ∧ Below wa.heap.size wa w') (by rw [HTV.out.1]; exact (rsign_any wa (some ⟨w.heap.size, 0, none⟩) seed7 1 (turnM c) (turnM_length c) (by simp [seed7]) (HK.out _ (HT.out _ hb_va)).2.2.2 (fun e => by cases e)).mono fun e w' ⟨v, he, hr, hbb⟩ => ⟨_, he, sigv_of hr, hbb⟩) ?_)
      rintro vb wb ⟨hs_vb, hb_vb'⟩
      have hb_vb := hb_va.trans (hb_vb'.mono hb_va.size)
      have hs_va' := hs_va.below hb_vb'
      refine ⟨hb_vb, ?_⟩
      simp only [Act.put, List.setIfInBounds_toArray, List.set_cons_zero, List.set_cons_succ]
      obtain ⟨g1, c1, cs1, rfl, hcs1, hF1⟩ := hs_va'
      obtain ⟨g2, c2, cs2, rfl, hcs2, hF2⟩ := hs_vb
      have hsm := same_any (signL seed7 (turnM c)) (signL_length _ _) g1 c1 g2 c2 wb (Array.getElem?_eq_some_iff.1 hcs1).1 (fun j hj => by rw [Nat.zero_add, cell_of_row wb g1 j cs1 26 (0, 0) hcs1]; exact hF1 j hj) (Array.getElem?_eq_some_iff.1 hcs2).1 (fun j hj => by rw [Nat.zero_add, cell_of_row wb g2 j cs2 26 (0, 0) hcs2]; exact hF2 j hj)
      refine held_one (i := 6) (by kernel_rfl) _ rfl (wpOp_callTo rfl rfl 30 rfl 13 #[.agg #[.slice (some ⟨g1, 0, none⟩) 35 c1], .agg #[.slice (some ⟨g2, 0, none⟩) 35 c2]] (by unfold execOp; simp [go_sem]) (fun v w' => v = .bool true ∧ Below wb.heap.size wb w') (hsm.mono fun e w' hh => ⟨_, hh.1, rfl, hh.2⟩) ?_)
      rintro v10 w10 ⟨rfl, hb10⟩
      have hb11 := hb_vb.trans (hb10.mono hb_vb.size)
      refine ⟨hb11, ?_⟩
      simp only [Act.put, List.setIfInBounds_toArray, List.set_cons_zero, List.set_cons_succ]
      refine held_take (i := 7) (v := .bool false) rfl 31 rfl (by kernel_rfl) (by kernel_rfl) (by kernel_rfl) (fun _ _ _ h => h) (by rfl) (by intro w' hS'; unfold execOp; simp [go_sem]) hb11 _ rfl ?_
      simp only [Act.put, List.setIfInBounds_toArray, List.set_cons_zero, List.set_cons_succ]
      refine wpAnyH_done (by kernel_rfl) ?_ _
      have hbf := H6.out.2.trans (hb11.mono H6.out.2.size)
      clear hb11 hb10 hsm hcs1 hcs2 hF1 hF2
      have hmd : ((c : Int)).tmod 3 = 0 := by rw [Int.tmod_eq_emod_of_nonneg m0]; have := HB.out.2.1; omega
      have hmd2 : (c : Int) % 3 = 0 := by have := HB.out.2.1; omega
      go_wp2_with fail
      refine ⟨⟨j + 1, by have := HB.out.2.1; have := HF.out.2.2.2; omega, ?_, hbf⟩, ?_⟩
      · have := HB.out.2.1
        refine congrArg (Value.int .i64) ?_
        have := HF.out.2.2.2
        first | omega | (unfold wrap64; omega)
      · have := HB.out.2.1
        have := HF.out.2.2.2
        simp [intOf]; omega
    · have hj18 : j = 18 := by omega
      have hc270 : c = 270 := by omega
      subst hc270
      rw [show ((270 : Nat) : Int) = 270 from rfl]
      have HB0 := Lib.hid HB.out.1
      clear HB hcj hj hlt hj18
      go_wp2_with fail
      go_loopw [4] (fun n W => ∃ k : Nat, k ≤ 5 ∧ n = .int .i64 ((33 + k : Nat) : Int) ∧ Below W0.heap.size W0 W) (fun n _ => 38 - (intOf n).toNat)
      case atStart => exact ⟨0, by omega, rfl, HB0.out⟩
      case round =>
        clear HB0
        obtain ⟨k, hk, rfl, hbr⟩ := hrel
        obtain ⟨n, hn⟩ : ∃ n, n = 33 + k := ⟨_, rfl⟩
        rw [← hn]
        by_cases hlt : n < 38
        · have m1 : (n : Int) < 38 := by omega
          have HN := Lib.hid (And.intro hn (And.intro hk (And.intro hlt hbr)))
          clear hn hk hlt hbr
          go_wp2_with fail
          have hl5 : Lies (wr.alloc (.cells #[.slice none 0 0] 24)) wr.heap.size #[.slice none 0 0] 24 := Lies.new _ _ _
          have hb5 : Below W0.heap.size W0 (wr.alloc (.cells #[.slice none 0 0] 24)) := HN.out.2.2.2.alloc HN.out.2.2.2.size _
          have hge : W0.heap.size ≤ wr.heap.size := HN.out.2.2.2.size
          obtain ⟨s5, hs5⟩ : ∃ s5, s5 = wr.heap.size := ⟨_, rfl⟩
          rw [← hs5] at hl5 hge ⊢
          have H5 := Lib.hid (And.intro hl5 (And.intro hb5 hge))
          clear hl5 hb5 hge hs5
          generalize wr.alloc (.cells #[.slice none 0 0] 24) = W5 at H5 ⊢
          go_loopw [6] (fun i W => ∃ q : Nat, q ≤ n ∧ i = .int .i64 q ∧ ∃ v, Lies W s5 #[v] 24 ∧ RowH W5.heap.size q (byteHs q) v W ∧ Below W0.heap.size W0 W ∧ W5.heap.size ≤ W.heap.size) (fun i _ => n - (intOf i).toNat)
          case atStart => exact ⟨0, by omega, rfl, _, H5.out.1, RowH.nil _ _, H5.out.2.1, Nat.le_refl _⟩
          case round =>
            obtain ⟨q, hq, rfl, v, hl, hr, hb, hsz⟩ := hrel
            by_cases hql : q < n
            · have n1 : (q : Int) < (n : Int) := by omega
              obtain ⟨b, hbn⟩ : ∃ b : UInt8, b.toNat = q := ⟨UInt8.ofNat q, by have := HN.out; simp; omega⟩
              subst hbn
              have hwb : IntKind.u8.wrap (b.toNat : Int) = (b.toNat : Int) := by have := b.toNat_lt; show (b.toNat : Int) % 256 = _; omega
              have c5 := hl.cell 0 (v := v) rfl
              have HR := Lib.hid (And.intro hql (And.intro hl (And.intro hr (And.intro hb hsz))))
              clear hql hl hr hb hsz hq
              go_wp2_with (first
                | (refine wpList_build_H rfl _ rfl b rfl ?_)
                | (refine wpList_slot rfl _ rfl b rfl ?_)
                | (at_builtin; refine wpList_moreH rfl (.tmp 42) (.tmp 46) rfl 47 rfl (v := v) rfl _ (markH b) (markH_length b) rfl (Lies.new _ _ _) (HR.out.2.2.1.below ((Below.refl _ _).alloc (Nat.le_refl _) _)) (by have := b.toNat_lt; omega) (by have := HR.out.2.2.2.2; simp; omega) ?_
                   intro v7 w7 hr7 hg7
                   obtain ⟨g7, k7, rfl, _⟩ := hr7.shape (by omega)
                   have hrx := HR.out.2.2.1.below ((Below.refl _ _).alloc (Nat.le_refl _) (.cells (B8 (markH b)) 26))
                   have hl7 : Lies w7 s5 #[v] 24 := (hg7.block s5 (HR.out.2.1.alloc _).lt (fun e => by have := (hrx.block s5 e.symm).1; have := H5.out.1.lt; omega)).trans (HR.out.2.1.alloc _)
                   have hb7 : Below W0.heap.size W0 w7 := (HR.out.2.2.2.1.alloc HR.out.2.2.2.1.size _).grown hg7 (HR.out.2.2.2.1.alloc HR.out.2.2.2.1.size _).size (fun x e => Nat.le_trans H5.out.2.1.size (hrx.block x e).1)
                   have hz7 : W5.heap.size ≤ w7.heap.size := Nat.le_trans (by have := HR.out.2.2.2.2; simp; omega) hg7.size
                   have c7 := hl7.cell 0 (v := v) rfl
                   have f7 := hl7.free 0
                   have H7 := Lib.hid (And.intro hr7 (And.intro hl7 (And.intro hb7 hz7)))
                   clear hr7 hg7 hrx hl7 hb7 hz7))
              have hr8 := H7.out.1.kept (grown_set (grown_refl w7 (some s5)) 0 (.slice (some ⟨g7, 0, none⟩) (b.toNat + 1) k7)) (fun x hx e => by have := (H7.out.1.block x hx).1; have := H5.out.1.lt; have := Option.some.inj e; omega)
              have hb9 : UInt8.ofNat b.toNat = b := by simp
              have hbs := byteHs_succ b.toNat
              rw [hb9] at hbs
              rw [← hbs] at hr8
              have hlt2 := HR.out.1
              have hfin := And.intro (H7.out.2.1.set 0 (.slice (some ⟨g7, 0, none⟩) (b.toNat + 1) k7)) (And.intro hr8 (And.intro (H7.out.2.2.1.setCell (p := ⟨s5, 0, none⟩) H5.out.2.2 (.slice (some ⟨g7, 0, none⟩) (b.toNat + 1) k7)) (show W5.heap.size ≤ (w7.setCell ⟨s5, 0, none⟩ (.slice (some ⟨g7, 0, none⟩) (b.toNat + 1) k7)).heap.size by rw [size_set]; exact H7.out.2.2.2)))
              refine ⟨⟨b.toNat + 1, by omega, by go_num, _, hfin⟩, ?_⟩
              simp [intOf]; omega
            · obtain rfl : q = n := by omega
              have hmem := HN.out
              obtain ⟨g7, k7, rfl, _⟩ := hr.shape (by omega)
              have how := fun V (hV : Below wr.heap.size wr V) => owns_any q (byteHs q) (fullM 17) V (some ⟨g7, 0, none⟩) k7 (byteHs_length q) (by unfold maxLen; omega) (fun e => by cases e) (fun _ => ⟨g7, 0, rfl, Nat.lt_of_lt_of_le (hr.block g7 rfl).2.1 hV.size, fun j hj => (hV.cell (p := ⟨g7, 0 + j, none⟩) (hr.block g7 rfl).2.1).trans (hr.src j hj)⟩) rfl (HK.out _ (hb.trans (hV.mono hb.size))).1 (HK.out _ (hb.trans (hV.mono hb.size))).2.1
              have hcell := fun V (hV : Below wr.heap.size wr V) => (hl.below hV hl.lt).cell 0 (v := .slice (some ⟨g7, 0, none⟩) q k7) rfl
              have HW := Lib.hid (And.intro how (And.intro hcell hb))
              have m2 : decide (q < q) = false := by simp
              clear how hcell hl hr hb hsz hq hql hmem
              go_upto_region 17 with fail
              obtain ⟨mv, hmv⟩ : ∃ mv, mv = B8 (fullM 17) := ⟨_, rfl⟩
              have hful : ∀ V, Calls Tryd.prog 12 #[.int .u8 17] V fun e w' => e = .returned (.agg mv) ∧ Below V.heap.size V w' := fun V => by rw [hmv]; exact full_any 17 V
              have HFU := Lib.hid (And.intro hful hmv)
              clear hful hmv
              refine wp_region_held (S := Below wr.heap.size wr) (by kernel_rfl) ?_
              change wpAnyH _ _ _ _ _ 4 _ _ (World.drew wr)
              have hcur : Below wr.heap.size wr wr.drew := (Below.refl _ _).drew
              refine held_take (i := 0) (v := .agg #[.slice (some ⟨g7, 0, none⟩) q k7]) rfl 49 rfl (by kernel_rfl) (by kernel_rfl) (by kernel_rfl) (fun _ _ _ h => h) (by rfl) (by intro w' hS'; have h1 := HW.out.2.1 _ hS'; unfold execOp; simp [go_sem, h1]) hcur _ rfl ?_
              simp only [Act.put, List.setIfInBounds_toArray, List.set_cons_zero, List.set_cons_succ]
              refine held_one (i := 1) (by kernel_rfl) _ rfl (wpOp_callTo rfl rfl 50 rfl 12 #[.int .u8 17] (by unfold execOp; simp [go_sem]) (fun v w' => v = .agg mv ∧ Below wr.drew.heap.size wr.drew w') ((HFU.out.1 wr.drew).mono fun e w' hh => ⟨_, hh.1, rfl, hh.2⟩) ?_)
              rintro v8 w8 ⟨rfl, hb8⟩
              have hb8' := hcur.trans (hb8.mono hcur.size)
              refine ⟨hb8', ?_⟩
              simp only [Act.put, List.setIfInBounds_toArray, List.set_cons_zero, List.set_cons_succ]
              refine held_one (i := 2) (by kernel_rfl) _ rfl (wpOp_callTo rfl rfl 51 rfl 3 #[.agg #[.slice (some ⟨g7, 0, none⟩) q k7], .agg mv] (by unfold execOp; simp [go_sem]) (fun v w' => v = .bool true ∧ Below w8.heap.size w8 w') (by rw [HFU.out.2]; exact (HW.out.1 w8 hb8').mono fun e w' hh => ⟨_, hh.1, rfl, hh.2⟩) ?_)
              rintro v9 w9 ⟨rfl, hb9⟩
              have hb9' := hb8'.trans (hb9.mono hb8'.size)
              refine ⟨hb9', ?_⟩
              simp only [Act.put, List.setIfInBounds_toArray, List.set_cons_zero, List.set_cons_succ]
              refine held_take (i := 3) (v := .bool false) rfl 52 rfl (by kernel_rfl) (by kernel_rfl) (by kernel_rfl) (fun _ _ _ h => h) (by rfl) (by intro w' hS'; unfold execOp; simp [go_sem]) hb9' _ rfl ?_
              simp only [Act.put, List.setIfInBounds_toArray, List.set_cons_zero, List.set_cons_succ]
              refine wpAnyH_done (by kernel_rfl) ?_ _
              have hfin := HW.out.2.2.trans (hb9'.mono HW.out.2.2.size)
              have HFN := Lib.hid hfin
              clear hfin hb9' hb9 hb8' hb8 hcur
              go_wp2_with fail
              have h1 := HN.out
              refine ⟨⟨k + 1, by omega, ?_, HFN.out⟩, ?_⟩
              · refine congrArg (Value.int .i64) ?_
                omega
              · simp [intOf]; omega
        · obtain rfl : n = 38 := by omega
          rw [show ((38 : Nat) : Int) = 38 from rfl]
          have HB0 := Lib.hid hbr
          clear hn hk hlt hbr
          obtain ⟨mv, hmv⟩ : ∃ mv, mv = B8 (fullM 1) := ⟨_, rfl⟩
          have hful : ∀ V, Calls Tryd.prog 12 #[.int .u8 1] V fun e w' => e = .returned (.agg mv) ∧ Below V.heap.size V w' := fun V => by rw [hmv]; exact full_any 1 V
          have HFU := Lib.hid (And.intro hful hmv)
          clear hful hmv
          go_wp2_with fail
          refine (HFU.out.1 wr).mono ?_
          rintro e w8 ⟨rfl, hb8⟩
          have hb8' := HB0.out.trans (hb8.mono HB0.out.size)
          have how : Calls Tryd.prog 3 #[.agg #[.slice none 0 0], .agg mv] w8 fun e w' => e = .returned (.bool true) ∧ Below w8.heap.size w8 w' := by
            rw [HFU.out.2]
            exact owns_any 0 [] (fullM 1) w8 none 0 rfl (Nat.zero_le _) (fun _ => ⟨rfl, rfl⟩) (fun h => absurd h (by omega)) rfl (HK.out _ hb8').1 (HK.out _ hb8').2.1
          have HOW := Lib.hid (And.intro how hb8')
          clear how hb8 hb8'
          go_wp2_with fail
          refine HOW.out.1.mono ?_
          rintro e w9 ⟨rfl, hb9⟩
          have hb9' := HOW.out.2.trans (hb9.mono HOW.out.2.size)
          have haw := awake_any w9 (HK.out _ hb9').1 (HK.out _ hb9').2.1
          have HAW := Lib.hid (And.intro haw hb9')
          clear haw hb9 hb9'
          go_wp2_with fail
          refine HAW.out.1.mono ?_
          rintro e w10 ⟨rfl, hb10⟩
          have hend := (HK.out _ (HAW.out.2.trans (hb10.mono HAW.out.2.size))).2.2.1
          clear hb10
          go_wp2_with fail
          go_ret
          exact ⟨rfl, hend⟩
end Go.Proofs.YtgempifedhiknaaDoor
