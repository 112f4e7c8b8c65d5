/-
  The document's own hash of bytes, and root of hashes (at most 40).
-/
import Derived.Test.YtccfdobogbiomaaDoorLent
import Derived.Test.YtccfdobogbiomaaDoorRoot
namespace Go.Proofs.YtccfdobogbiomaaDoor
open Go.RowKit Sha

set_option maxRecDepth 100000 in
set_option maxHeartbeats 2000000 in
theorem one_any (pa : Option Addr) (xs : List UInt8) (pc : Nat) (w : World) (hx : xs.length ≤ 1000000) (hg : Good w ⟨pa, xs, pc⟩) (hneat : pa = none → pc = 0) :
    Calls Tryd.prog 17 #[.slice pa xs.length pc] w fun e w' => e = .returned (.agg (B8 (sha xs))) ∧ Below w.heap.size w w' := by
  have HG := Lib.hid hg
  have HN := Lib.hid hneat
  clear hg hneat
  go_enter Tryd.func17, Tryd.ntmps17
  go_wp2_with fail
  change Calls _ _ _ ((w.alloc (.cells z32 27)).alloc _) _
  have hz := Lies.new w z32 27
  have hb := (Below.refl w.heap.size w).alloc (Nat.le_refl _) (.cells z32 27)
  have e1 : w.heap.size + 1 = (w.alloc (.cells z32 27)).heap.size := by simp
  rw [e1]
  generalize w.alloc (.cells z32 27) = W0 at hz hb ⊢
  have hb2 : Below W0.heap.size W0 (W0.alloc (.cells #[.slice pa xs.length pc] 38)) := (Below.refl _ _).alloc (Nat.le_refl _) _
  have t1 : (W0.alloc (.cells #[.slice pa xs.length pc] 38)).heap[W0.heap.size]? = some (.cells #[.slice pa xs.length pc] 38 (0, 0)) := Go.heap_alloc_new W0 _
  generalize W0.alloc (.cells #[.slice pa xs.length pc] 38) = W at hb2 t1 ⊢
  have hm : (1 : Nat) ≤ maxLen := by unfold maxLen; omega
  have hj : joined [⟨pa, xs, pc⟩] = xs := by simp [joined]
  have main := refof_any [⟨pa, xs, pc⟩] W (some ⟨W0.heap.size, 0, none⟩) 1 hm ?_ ?_ ?_ (by rw [hj]; exact hx)
  · rw [hj] at main
    refine main.mono ?_
    rintro e w3 ⟨rfl, hb3⟩
    have hzz : (B8 (sha xs)).size = 32 := by rw [B8_size]; rfl
    have HZ := Lib.hid ((hz.below hb2 hz.lt).below hb3 (hz.below hb2 hz.lt).lt)
    have HB := Lib.hid ((hb.trans (hb2.mono hb.size)).trans (hb3.mono (Nat.le_trans hb.size hb2.size)))
    clear hz hb hb2 hb3 t1 main hj e1
    go_wp2_with (refine wpList_store_row rfl 27 _ _ rfl w.heap.size (B8 (sha xs)) rfl rfl 27 z32 HZ.out (by rw [hzz]; exact info27) (by rw [hzz]; rfl) (B8_one _) ?_)
    refine bodyPost_ret (v := .agg (B8 (sha xs))) (results_cell_row (p := 2) (ty := 27) (by kernel_rfl) _ _ w.heap.size 27 (B8 (sha xs)) (0, 0) _ rfl (HZ.out.setRow _) Tryd.underlying27 rfl (by rw [hzz]; exact info27)) rfl ⟨rfl, ?_⟩
    exact below_setRow HB.out _ _ (Nat.le_refl _)
  · intro p hp
    rw [List.mem_singleton] at hp
    rw [hp]
    exact (HG.out.below hb).below hb2
  · intro p hp
    rw [List.mem_singleton] at hp
    rw [hp]
    exact HN.out
  · intro _
    refine ⟨_, _, rfl, Lies.lt t1, fun j hj => ?_⟩
    obtain rfl : j = 0 := by simp at hj; omega
    have := cell_of_row W _ 0 _ _ _ t1
    simpa [Part.val] using this

section
variable {P : Program} {ops : Array Oper} {Q : Exit → Act → World → Prop} {md : Region.Mode}
theorem wpAny_wp {i : Nat} {oi : Oper} {fuel : Nat} {listed : Array Bool} {a : Act} {w : World} (hi : ops[i]? = some oi) (hg : oi.guard = none)
    (hr : Region.ready md ops listed = [i]) (l2 : Array Bool) (hl : listed.setIfInBounds i true = l2) (h : oi.wp P a w (wpAny P md ops Q fuel l2) Q) : wpAny P md ops Q (fuel + 1) listed a w :=
  wpAny_oneOp hr l2 hl (wpOp_wp hi hg h)
end
theorem wp_moreQ {w0 w : World} {o : Oper} {a : Act} {K : Act → World → Prop} {Q : Exit → Act → World → Prop} (sx x : Operand)
    (ho : o.op = .call { callee := .builtin .append, args := #[sx, x], argTypes := #[38, 38] }) (d : Tmp) (hd : o.dst = some d) (l : List UInt8) (v : Value) (g off : Nat) (xs : List UInt8) (c : Nat)
    (hs : a.eval sx = v) (hx : a.eval x = .slice (some ⟨g, off, none⟩) xs.length c) (hsrc : Src w g off xs) (hl : l.length + xs.length ≤ 2000000) (h : AtQ w0 l v w)
    (k : ∀ v' w', AtQ w0 (l ++ xs) v' w' → w.grownBy w' v.ownBlock → K (a.put (some d) v') w') : o.wp Tryd.prog a w K Q := by
  obtain ⟨i0, hi0, hz0, hz1, hz2⟩ := info_parts info5
  refine wp_append_own (P := Tryd.prog) w sx x 38 ho w0.heap.size 5 i0 (.int .u8 0) 1 1 Tryd.underlying38 hi0 hz0 hz1 hz2 rfl (by decide) v l.length (B8 l).toList hs h.1 ⟨g, off, none⟩ xs.length c (B8 xs).toList hx (by rw [Array.length_toList, B8_size, Nat.mul_one]) (src_news hsrc) (byts_one _) (by unfold maxLen; omega) (by omega) h.2.size ?_
  intro v' w' hown hgrow _
  rw [hd]
  refine k v' w' ⟨?_, h.2.grown hgrow h.2.size (fun j e => (h.1.lt j e).1)⟩ hgrow
  have e : (B8 (l ++ xs)).toList = (B8 l).toList ++ (B8 xs).toList := by simp [B8]
  rw [e, List.length_append]; exact hown
theorem byte_own (w : World) (b : UInt8) : AtQ w [b] (.slice (some ⟨w.heap.size, 0, none⟩) 1 1) (w.alloc (.cells #[.int .u8 b.toNat] 5)) := by
  refine ⟨⟨rfl, .inr ⟨w.heap.size, 1, #[.int .u8 b.toNat], rfl, Nat.le_refl _, Go.heap_alloc_new w _, Nat.le_refl _, by unfold maxLen; omega, rfl, rfl⟩⟩, (Below.refl _ _).alloc (Nat.le_refl _) _⟩
theorem lies_src {W : World} {g : Nat} {R : List UInt8} (hl : Lies W g (B8 R) 27) : Src W g 0 R := fun j hj => by
  rw [Nat.zero_add]; exact hl.cell j (B8_get R j hj)
/-- Own bytes, as a part. -/
theorem AtQ.good {w0 : World} {l : List UInt8} {g c : Nat} {w : World} (h : AtQ w0 l (.slice (some ⟨g, 0, none⟩) l.length c) w) : Good w ⟨some ⟨g, 0, none⟩, l, c⟩ :=
  ⟨h.room.1, h.room.2.1, fun _ => ⟨g, 0, rfl, h.room.2.2, h.byts.1⟩⟩

/-- The document's root of at most k hashes. -/
def RefRootOf (k : Nat) : Prop := ∀ (m : Nat) (F : List UInt8) (w : World) (v : Option Addr) (cap : Nat), m ≤ k → m ≤ 40 → F.length = 32 * m → m ≤ cap → cap ≤ maxLen →
  (0 < m → ∃ g off, v = some ⟨g, off, none⟩ ∧ g < w.heap.size ∧ Src w g off F) →
  Calls Tryd.prog 15 #[.slice v m cap] w fun e w' => e = .returned (.agg (B8 (root m F))) ∧ Below w.heap.size w w'

set_option maxRecDepth 100000 in
set_option maxHeartbeats 2000000 in
theorem refroot_none (w : World) (v : Option Addr) (cap : Nat) :
    Calls Tryd.prog 15 #[.slice v 0 cap] w fun e w' => e = .returned (.agg (B8 (root 0 []))) ∧ Below w.heap.size w w' := by
  rw [root_zero]
  go_enter Tryd.func15, Tryd.ntmps15
  go_wp2_with fail
  change Calls _ _ _ ((w.alloc (.cells z32 27)).alloc _) _
  have hz := Lies.new w z32 27
  have hb := (Below.refl w.heap.size w).alloc (Nat.le_refl _) (.cells z32 27)
  have e1 : w.heap.size + 1 = (w.alloc (.cells z32 27)).heap.size := by simp
  rw [e1]
  generalize w.alloc (.cells z32 27) = W0 at hz hb ⊢
  have hq := byte_own W0 0
  have hq2 : AtQ W0 [0] (.slice (some ⟨W0.heap.size, 0, none⟩) ([0] : List UInt8).length 1) (W0.alloc (.cells #[.int .u8 (0 : UInt8).toNat] 5)) := hq
  refine (one_any (some ⟨W0.heap.size, 0, none⟩) [0] 1 _ (by decide) hq2.good (fun h => by cases h)).mono ?_
  rintro e w2 ⟨rfl, hb2⟩
  have hbq := hq.2
  have hzz : (B8 (sha [0])).size = 32 := by rw [B8_size]; rfl
  have HZ := Lib.hid ((hz.below hbq hz.lt).below hb2 (hz.below hbq hz.lt).lt)
  have HB := Lib.hid ((hb.trans (hbq.mono hb.size)).trans (hb2.mono (Nat.le_trans hb.size hbq.size)))
  clear hz hb hb2 hbq hq hq2 e1
  go_wp2_with (refine wpList_store_row rfl 27 _ _ rfl w.heap.size (B8 (sha [0])) rfl rfl 27 z32 HZ.out (by rw [hzz]; exact info27) (by rw [hzz]; rfl) (B8_one _) ?_)
  refine bodyPost_ret (v := .agg (B8 (sha [0]))) (results_cell_row (p := 2) (ty := 27) (by kernel_rfl) _ _ w.heap.size 27 (B8 (sha [0])) (0, 0) _ rfl (HZ.out.setRow _) Tryd.underlying27 rfl (by rw [hzz]; exact info27)) rfl ⟨rfl, ?_⟩
  exact below_setRow HB.out _ _ (Nat.le_refl _)
set_option maxRecDepth 100000 in
set_option maxHeartbeats 2000000 in
theorem refroot_single (F : List UInt8) (w : World) (cap g off : Nat) (hF : F.length = 32) (hgw : g < w.heap.size) (hsrc : Src w g off F) :
    Calls Tryd.prog 15 #[.slice (some ⟨g, off, none⟩) 1 cap] w fun e w' => e = .returned (.agg (B8 (root 1 F))) ∧ Below w.heap.size w w' := by
  rw [root_one]
  have HF := Lib.hid hF
  have HSRC := Lib.hid hsrc
  clear hF hsrc
  go_enter Tryd.func15, Tryd.ntmps15
  go_upto_region 5 with fail
  change Code.wp _ _ _ _ (w.alloc (.cells z32 27))
  have hz := Lies.new w z32 27
  have hb := (Below.refl w.heap.size w).alloc (Nat.le_refl _) (.cells z32 27)
  have hg1 : g < (w.alloc (.cells z32 27)).heap.size := by simp; omega
  have hsr : Src (w.alloc (.cells z32 27)) g off F := HSRC.out.below hb hgw
  generalize w.alloc (.cells z32 27) = W0 at hz hb hg1 hsr ⊢
  have hq := byte_own W0 1
  have hsr2 : Src (W0.alloc (.cells #[.int .u8 (1 : UInt8).toNat] 5)) g off F := hsr.below hq.2 hg1
  have HQ := Lib.hid hq
  have HSR := Lib.hid hsr2
  have HZ := Lib.hid hz
  have HB := Lib.hid hb
  clear hz hb hg1 hsr hq hsr2
  go_wp2_with (at_builtin; go_must (refine wpList_plain rfl (fun K hK => wp_moreQ _ _ rfl 18 rfl [1] _ g off F 32 rfl (by rw [HF.out]; rfl) HSR.out (by rw [HF.out]; decide) HQ.out ?_); intro v5 w5 HQ5 _; refine hK _ _ ?_; clear hK K; replace HQ5 := Lib.hid HQ5))
  obtain ⟨g6, c6, rfl⟩ := HQ5.out.shape (by simp)
  have hlen : ([1] ++ F).length = 33 := by rw [List.length_append, HF.out]; rfl
  have hq5 := HQ5.out
  have hone := one_any (some ⟨g6, 0, none⟩) ([1] ++ F) c6 w5 (by rw [hlen]; decide) hq5.good (fun h => by cases h)
  rw [hlen] at hone ⊢
  refine hone.mono ?_
  rintro e w6 ⟨rfl, hb6⟩
  have hbq := hq5.2
  have hzz : (B8 (sha ([1] ++ F))).size = 32 := by rw [B8_size]; rfl
  have HZ6 := Lib.hid ((HZ.out.below hbq HZ.out.lt).below hb6 (HZ.out.below hbq HZ.out.lt).lt)
  have HB6 := Lib.hid ((HB.out.trans (hbq.mono HB.out.size)).trans (hb6.mono (Nat.le_trans HB.out.size hbq.size)))
  clear hb6 hbq hq5 hone HQ5 HQ HSR hlen
  have hE : sha ([1] ++ F) = sha (1 :: F) := rfl
  rw [hE] at hzz ⊢
  clear hE
  go_wp2_with (refine wpList_store_row rfl 27 _ _ rfl w.heap.size (B8 (sha (1 :: F))) rfl rfl 27 z32 HZ6.out (by rw [hzz]; exact info27) (by rw [hzz]; rfl) (B8_one _) ?_)
  refine bodyPost_ret (v := .agg (B8 (sha (1 :: F)))) (results_cell_row (p := 2) (ty := 27) (by kernel_rfl) _ _ w.heap.size 27 (B8 (sha (1 :: F))) (0, 0) _ rfl (HZ6.out.setRow _) Tryd.underlying27 rfl (by rw [hzz]; exact info27)) rfl ⟨rfl, ?_⟩
  exact below_setRow HB6.out _ _ (Nat.le_refl _)

theorem pow_more {m k : Nat} (hm : m ≤ 40) (hk : k = 1 ∨ k = 2 ∨ k = 4 ∨ k = 8 ∨ k = 16 ∨ k = 32) (h2 : k * 2 < m) : (k * 2 = 1 ∨ k * 2 = 2 ∨ k * 2 = 4 ∨ k * 2 = 8 ∨ k * 2 = 16 ∨ k * 2 = 32) ∧ k * 2 < m := ⟨by omega, h2⟩
theorem pow_last {m k : Nat} (hm : m ≤ 40) (hk : k = 1 ∨ k = 2 ∨ k = 4 ∨ k = 8 ∨ k = 16 ∨ k = 32) (h1 : k < m) (h2 : m ≤ k * 2) : powB m = k := by
  unfold powB blen
  rcases hk with rfl | rfl | rfl | rfl | rfl | rfl <;> (repeat' split) <;> (first | omega | (simp; done) | (exfalso; omega) | (simp; omega))

set_option maxRecDepth 100000 in
set_option maxHeartbeats 4000000 in
theorem refroot_many (k : Nat) (ih : RefRootOf k) (m : Nat) (F : List UInt8) (w : World) (cap g off : Nat) (hk : m ≤ k + 1) (h2 : 2 ≤ m) (h40 : m ≤ 40) (hF : F.length = 32 * m) (hc1 : m ≤ cap) (hc2 : cap ≤ maxLen)
    (hgw : g < w.heap.size) (hsrc : Src w g off F) :
    Calls Tryd.prog 15 #[.slice (some ⟨g, off, none⟩) m cap] w fun e w' => e = .returned (.agg (B8 (root m F))) ∧ Below w.heap.size w w' := by
  have HF := Lib.hid hF
  have HSRC := Lib.hid hsrc
  have HIH := Lib.hid ih
  clear hF hsrc ih
  have e0 : ((m : Int) == 0) = false := by rw [beq_eq_false_iff_ne]; omega
  have e1 : ((m : Int) == 1) = false := by rw [beq_eq_false_iff_ne]; omega
  have hm4 : (m : Int) ≤ 40 := by omega
  go_enter Tryd.func15, Tryd.ntmps15
  go_wp2_with fail
  change Code.wp _ _ _ _ (w.alloc (.cells z32 27))
  have hb0 : Below w.heap.size w (w.alloc (.cells z32 27)) := (Below.refl _ _).alloc (Nat.le_refl _) _
  have hz0 : Lies (w.alloc (.cells z32 27)) w.heap.size z32 27 := Lies.new w _ _
  generalize w.alloc (.cells z32 27) = W0 at hb0 hz0 ⊢
  have HB0 := Lib.hid hb0
  have HZ0 := Lib.hid hz0
  clear hb0 hz0
  go_loop [3] (fun n => ∃ n' : Nat, n = .int .i64 n' ∧ (n' = 1 ∨ n' = 2 ∨ n' = 4 ∨ n' = 8 ∨ n' = 16 ∨ n' = 32) ∧ n' < m) (fun n => m - (intOf n).toNat)
  case atStart => exact ⟨1, rfl, .inl rfl, by omega⟩
  case round =>
    obtain ⟨n, rfl, hp, hnm⟩ := hrel
    have HP := Lib.hid hp
    have n1 : 1 ≤ n := by omega
    have n40 : n ≤ 40 := by omega
    clear hp
    by_cases hlt : n * 2 < m
    · have i1 : (n : Int) * 2 < (m : Int) := by omega
      go_wp2_with fail
      have hnx := pow_more h40 HP.out hlt
      refine ⟨⟨n * 2, rfl, hnx.1, hnx.2⟩, ?_⟩
      simp [intOf]; omega
    · have i1 : ¬ (n : Int) * 2 < (m : Int) := by omega
      have i3 : (m : Int) ≤ (n : Int) * 2 := by omega
      have hpw := pow_last h40 HP.out hnm (by omega)
      have hroot := root_more m F h2
      rw [hpw] at hroot
      have n3 : n ≤ m := by omega
      have n4 : n ≤ cap := by omega
      have n5 : ¬ cap = n := by omega
      have n6 : (n : Int) ≤ (cap : Int) := by omega
      have n7 : (n : Int) ≤ (m : Int) := by omega
      have n2 : (0 : Int) ≤ (n : Int) := by omega
      clear hpw
      have c1 : ∀ W, Below W0.heap.size W0 W → Calls Tryd.prog 15 #[.slice (some ⟨g, off, none⟩) n cap] W fun e w' => e = .returned (.agg (B8 (root n (F.take (32 * n))))) ∧ Below W.heap.size W w' := by
        intro W hB0
        have hB := HB0.out.trans (hB0.mono HB0.out.size)
        exact HIH.out n (F.take (32 * n)) W _ cap (by omega) (by omega) (by rw [List.length_take, HF.out]; omega) n4 hc2 (fun _ => ⟨g, off, rfl, Nat.lt_of_lt_of_le hgw hB.size, (HSRC.out.take _).below hB hgw⟩)
      have c2 : ∀ W, Below W0.heap.size W0 W → Calls Tryd.prog 15 #[.slice (some ⟨g, off + n * 32, none⟩) (m - n) (cap - n)] W fun e w' => e = .returned (.agg (B8 (root (m - n) (F.drop (32 * n))))) ∧ Below W.heap.size W w' := by
        intro W hB0
        have hB := HB0.out.trans (hB0.mono HB0.out.size)
        exact HIH.out (m - n) (F.drop (32 * n)) W _ (cap - n) (by omega) (by omega) (by rw [List.length_drop, HF.out]; omega) (by omega) (by omega) (fun _ => ⟨g, off + n * 32, rfl, Nat.lt_of_lt_of_le hgw hB.size, (by rw [Nat.mul_comm n 32]; exact (HSRC.out.drop _).below hB hgw)⟩)
      have l1 := root_length n (F.take (32 * n))
      have l2 := root_length (m - n) (F.drop (32 * n))
      generalize root n (F.take (32 * n)) = R1 at c1 hroot l1
      generalize root (m - n) (F.drop (32 * n)) = R2 at c2 hroot l2
      have C1 := Lib.hid c1
      have C2 := Lib.hid c2
      have HROOT := Lib.hid hroot
      have L1 := Lib.hid l1
      have L2 := Lib.hid l2
      clear c1 c2 hroot l1 l2 HIH HP
      go_upto_region 9 with fail
      refine wp_region_any (by kernel_rfl) ?_
      change wpAny _ _ _ _ _ _ _ (World.drew W0)
      refine wpAny_takeTo (i := 0) (v := .slice (some ⟨g, off, none⟩) m cap) rfl 27 rfl (by kernel_rfl) (by kernel_rfl) (by kernel_rfl) (fun _ _ _ h => h) rfl ?_ #[true, false, false, false, false, false, false, false, false, false, false, false] (by kernel_rfl) ?_
      · intro w; go_simp
      simp only [Act.put, List.setIfInBounds_toArray, List.set_cons_zero, List.set_cons_succ]
      refine wpAny_takeTo (i := 1) (v := .int .i64 n) rfl 28 rfl (by kernel_rfl) (by kernel_rfl) (by kernel_rfl) (fun _ _ _ h => h) rfl ?_ #[true, true, false, false, false, false, false, false, false, false, false, false] (by kernel_rfl) ?_
      · intro w; go_simp
      simp only [Act.put, List.setIfInBounds_toArray, List.set_cons_zero, List.set_cons_succ]
      refine wpAny_takeTo (i := 2) (v := .slice (some ⟨g, off, none⟩) n cap) rfl 29 rfl (by kernel_rfl) (by kernel_rfl) (by kernel_rfl) (fun _ _ _ h => h) rfl ?_ #[true, true, true, false, false, false, false, false, false, false, false, false] (by kernel_rfl) ?_
      · intro w; go_simp
      simp only [Act.put, List.setIfInBounds_toArray, List.set_cons_zero, List.set_cons_succ]
      refine wpAny_takeTo (i := 4) (v := .slice (some ⟨g, off, none⟩) m cap) rfl 31 rfl (by kernel_rfl) (by kernel_rfl) (by kernel_rfl) (fun _ _ _ h => h) rfl ?_ #[true, true, true, false, true, false, false, false, false, false, false, false] (by kernel_rfl) ?_
      · intro w; go_simp
      simp only [Act.put, List.setIfInBounds_toArray, List.set_cons_zero, List.set_cons_succ]
      refine wpAny_takeTo (i := 5) (v := .int .i64 n) rfl 32 rfl (by kernel_rfl) (by kernel_rfl) (by kernel_rfl) (fun _ _ _ h => h) rfl ?_ #[true, true, true, false, true, true, false, false, false, false, false, false] (by kernel_rfl) ?_
      · intro w; go_simp
      simp only [Act.put, List.setIfInBounds_toArray, List.set_cons_zero, List.set_cons_succ]
      refine wpAny_takeTo (i := 6) (v := .slice (some ⟨g, off + n * 32, none⟩) (m - n) (cap - n)) rfl 33 rfl (by kernel_rfl) (by kernel_rfl) (by kernel_rfl) (fun _ _ _ h => h) rfl ?_ #[true, true, true, false, true, true, true, false, false, false, false, false] (by kernel_rfl) ?_
      · intro w; go_simp
      simp only [Act.put, List.setIfInBounds_toArray, List.set_cons_zero, List.set_cons_succ]
      refine pair_any W0 R1 R2 L1.out L2.out _ 30 34 4 5 (by decide) (by decide) (by decide) (by decide) (by decide) (by decide) (by show (30 : Nat) < 41; decide) (by show (34 : Nat) < 41; decide) (by show (4 : Nat) < 41; decide) (by show (5 : Nat) < 41; decide)
        15 #[.slice (some ⟨g, off, none⟩) n cap] #[.slice (some ⟨g, off + n * 32, none⟩) (m - n) (cap - n)] _ _ _ _ _ _ rfl rfl rfl (fun _ _ _ _ _ => by kernel_rfl) rfl rfl rfl (fun _ _ _ _ _ => by kernel_rfl) rfl rfl rfl rfl rfl rfl rfl rfl rfl rfl rfl rfl rfl rfl rfl rfl ?hr C1.out C2.out ?hQ W0.drew (Below.refl _ _).drew
      case hr => exact PairReady.of (by kernel_rfl)
      intro gx gy w' b1 b2 hne y1 y2 hb
      simp only [put4, Act.put, List.setIfInBounds_toArray, List.set_cons_zero, List.set_cons_succ]
      have Y1 := Lib.hid y1
      have Y2 := Lib.hid y2
      have HB := Lib.hid (HB0.out.trans (hb.mono HB0.out.size))
      have HZ := Lib.hid (HZ0.out.below hb HZ0.out.lt)
      clear y1 y2 hb b1 b2 hne C1 C2 HB0 HZ0
      go_upto_region 10 with fail
      refine wp_region_any (by kernel_rfl) ?_
      change wpAny _ _ _ _ _ _ _ (World.drew w')
      refine wpAny_takeTo (i := 1) (v := .slice (some ⟨gx, 0, none⟩) 32 32) rfl 36 rfl (by kernel_rfl) (by kernel_rfl) (by kernel_rfl) (fun _ _ _ h => h) rfl ?_ #[false, true, false, false, false, false, false] (by kernel_rfl) ?_
      · intro w; go_simp
      simp only [Act.put, List.setIfInBounds_toArray, List.set_cons_zero, List.set_cons_succ]
      refine wpAny_takeTo (i := 3) (v := .slice (some ⟨gy, 0, none⟩) 32 32) rfl 38 rfl (by kernel_rfl) (by kernel_rfl) (by kernel_rfl) (fun _ _ _ h => h) rfl ?_ #[false, true, false, true, false, false, false] (by kernel_rfl) ?_
      · intro w; go_simp
      simp only [Act.put, List.setIfInBounds_toArray, List.set_cons_zero, List.set_cons_succ]
      refine wpAny_valueTo (i := 0) rfl rfl 35 rfl (by kernel_rfl) #[true, true, false, true, false, false, false] (by kernel_rfl) (.slice (some ⟨w'.heap.size, 0, none⟩) 1 1) (w'.alloc (.cells #[.int .u8 2] 5)).drew ?_ ?_
      · go_simp
      simp only [Act.put, List.setIfInBounds_toArray, List.set_cons_zero, List.set_cons_succ]
      have q0 : AtQ w' [2] (.slice (some ⟨w'.heap.size, 0, none⟩) 1 1) (w'.alloc (.cells #[.int .u8 2] 5)).drew := ⟨(byte_own w' 2).1, (byte_own w' 2).2.drew⟩
      generalize (w'.alloc (.cells #[.int .u8 2] 5)).drew = W1 at q0 ⊢
      have z1 := Y1.out.below q0.2 Y1.out.lt
      have z2 := Y2.out.below q0.2 Y2.out.lt
      refine wpAny_wp (i := 2) rfl rfl (by kernel_rfl) #[true, true, true, true, false, false, false] (by kernel_rfl) (wp_moreQ _ _ rfl 37 rfl [2] _ gx 0 R1 32 rfl (by rw [L1.out]; rfl) (lies_src z1) (by rw [L1.out]; decide) q0 ?_)
      intro v2 W2 q1 hgr2
      have z3 : Lies W2 gy (B8 R2) 27 := (hgr2.block gy z2.lt (fun e => by
        have e2 : gy = w'.heap.size := Option.some.inj e
        have := Y2.out.lt
        omega)).trans z2
      simp only [Act.put, List.setIfInBounds_toArray, List.set_cons_zero, List.set_cons_succ]
      refine wpAny_wp (i := 4) rfl rfl (by kernel_rfl) #[true, true, true, true, true, false, false] (by kernel_rfl) (wp_moreQ _ _ rfl 39 rfl ([2] ++ R1) _ gy 0 R2 32 rfl (by rw [L2.out]; rfl) (lies_src z3) (by rw [List.length_append, L1.out, L2.out]; decide) q1 ?_)
      intro v3 W3 q2 _
      simp only [Act.put, List.setIfInBounds_toArray, List.set_cons_zero, List.set_cons_succ]
      obtain ⟨g6, c6, rfl⟩ := q2.shape (by simp)
      have hlen : ([2] ++ R1 ++ R2).length = 65 := by rw [List.length_append, List.length_append, L1.out, L2.out]; rfl
      have hone := one_any (some ⟨g6, 0, none⟩) ([2] ++ R1 ++ R2) c6 W3 (by rw [hlen]; decide) q2.good (fun h => by cases h)
      rw [hlen] at hone ⊢
      have hBq := q2.2
      refine wpAny_callTo (i := 5) rfl rfl 40 rfl (by kernel_rfl) #[true, true, true, true, true, true, false] (by kernel_rfl) 17 #[.slice (some ⟨g6, 0, none⟩) 65 c6] ?_
        (fun v w2 => v = .agg (B8 (sha ([2] ++ R1 ++ R2))) ∧ Below W3.heap.size W3 w2) (hone.mono fun e w2 hh => ⟨_, hh.1, rfl, hh.2⟩) ?_
      · go_simp
      rintro v w2 ⟨rfl, hb2⟩
      simp only [Act.put, List.setIfInBounds_toArray, List.set_cons_zero, List.set_cons_succ]
      have hzz : (B8 (sha ([2] ++ R1 ++ R2))).size = 32 := by rw [B8_size]; rfl
      have hzf : Lies w2 w.heap.size z32 27 := (HZ.out.below hBq HZ.out.lt).below hb2 (HZ.out.below hBq HZ.out.lt).lt
      have hbf : Below w.heap.size w w2 := (HB.out.trans (hBq.mono HB.out.size)).trans (hb2.mono (Nat.le_trans HB.out.size hBq.size))
      refine wpAny_storeTo (i := 6) rfl rfl rfl (by kernel_rfl) #[true, true, true, true, true, true, true] (by kernel_rfl) 27 _ _ rfl w.heap.size (B8 (sha ([2] ++ R1 ++ R2))) rfl rfl 27 z32 hzf (by rw [hzz]; exact info27) (by rw [hzz]; rfl) (B8_one _) ?_
      refine wpAny_done (by kernel_rfl) ?_ _
      have hX : Below w.heap.size w (w2.setRow w.heap.size (B8 (sha ([2] ++ R1 ++ R2)))) := below_setRow hbf _ _ (Nat.le_refl _)
      have hY : Lies (w2.setRow w.heap.size (B8 (sha ([2] ++ R1 ++ R2)))) w.heap.size (B8 (sha ([2] ++ R1 ++ R2))) 27 := hzf.setRow _
      have HX := Lib.hid hX
      have HY := Lib.hid hY
      have hE : sha ([2] ++ R1 ++ R2) = sha (2 :: (R1 ++ R2)) := rfl
      rw [hE] at HX HY hzz ⊢
      rw [← HROOT.out] at HX HY hzz ⊢
      clear hX hY hb2 hbf hzf hBq hone q2 q1 q0 z1 z2 z3 hgr2 hlen hE
      go_wp2_with fail
      refine bodyPost_ret (v := .agg (B8 (root m F))) (results_cell_row (p := 2) (ty := 27) (by kernel_rfl) _ _ w.heap.size 27 (B8 (root m F)) (0, 0) _ rfl HY.out Tryd.underlying27 rfl (by rw [hzz]; exact info27)) rfl ⟨rfl, HX.out⟩

theorem refroot_upto : ∀ k, RefRootOf k
  | 0 => by
    intro m F w v cap hk _ hF _ _ _
    obtain rfl : m = 0 := by omega
    obtain rfl : F = [] := List.eq_nil_of_length_eq_zero (by omega)
    exact refroot_none w v cap
  | k + 1 => by
    intro m F w v cap hk h40 hF hc1 hc2 hsrc
    by_cases h0 : m = 0
    · subst h0
      obtain rfl : F = [] := List.eq_nil_of_length_eq_zero (by omega)
      exact refroot_none w v cap
    · obtain ⟨g, off, rfl, hg, hx⟩ := hsrc (by omega)
      by_cases h1 : m = 1
      · subst h1
        exact refroot_single F w cap g off (by omega) hg hx
      · exact refroot_many k (refroot_upto k) m F w cap g off hk (by omega) h40 hF hc1 hc2 hg hx
theorem refroot_any (m : Nat) (F : List UInt8) (w : World) (v : Option Addr) (cap : Nat) (h40 : m ≤ 40) (hF : F.length = 32 * m) (hc1 : m ≤ cap) (hc2 : cap ≤ maxLen)
    (hsrc : 0 < m → ∃ g off, v = some ⟨g, off, none⟩ ∧ g < w.heap.size ∧ Src w g off F) :
    Calls Tryd.prog 15 #[.slice v m cap] w fun e w' => e = .returned (.agg (B8 (root m F))) ∧ Below w.heap.size w w' :=
  refroot_upto m m F w v cap (Nat.le_refl _) h40 hF hc1 hc2 hsrc
end Go.Proofs.YtccfdobogbiomaaDoor
