/-
  The sum of numbers of 128 bits, of a nil row too.
-/
import Derived.Test.YtjngghihciimjaaGreatJRt
import Derived.Test.YtjngghihciimjaaGreatJVe
import Derived.Test.YtjngghihciimjaaGreatJRb
import Derived.Laws.Externs
namespace Go.Proofs.YtjngghihciimjaaGreat
set_option maxRecDepth 100000
open Go.RowKit Go.Sort
def sgn (a c : Int) : Int := if a < c then -1 else if c < a then 1 else 0
theorem nanI_any (x : Int) (w : World) : Calls Tryz.prog 127 #[.int .i64 x] w fun e w' => e = .returned (.bool false) ∧ w = w' := by
 go_enter Tryz.func127, Tryz.ntmps127
 go_wp2
 go_ret
 exact ⟨rfl, rfl⟩
theorem nanU_any (x : Int) (w : World) : Calls Tryz.prog 128 #[.int .u64 x] w fun e w' => e = .returned (.bool false) ∧ w = w' := by
 go_enter Tryz.func128, Tryz.ntmps128
 go_wp2
 go_ret
 exact ⟨rfl, rfl⟩
theorem compareI_any (w : World) (a c : Int) : Calls Tryz.prog 78 #[.int .i64 a, .int .i64 c] w fun e w' => e = .returned (.int .i64 (sgn a c)) ∧ w = w' := by
 obtain ⟨m, hm⟩ : ∃ m, m = sgn a c := ⟨_, rfl⟩
 rw [← hm]
 unfold sgn at hm
 have c1 := nanI_any a w
 have c2 := nanI_any c w
 have HM := Lib.hid hm
 clear hm
 go_enter Tryz.func78, Tryz.ntmps78
 go_wp2_with fail
 refine c1.mono ?_
 rintro e w' ⟨rfl, rfl⟩
 go_wp2_with fail
 refine c2.mono ?_
 rintro e w' ⟨rfl, rfl⟩
 clear c1 c2
 by_cases h1 : a < c
 ·
  go_wp2_with fail
  go_ret
  exact ⟨ret_i (by rw [HM.out, if_pos h1]), rfl⟩
 ·
  by_cases h2 : c < a
  ·
   go_wp2_with fail
   go_ret
   exact ⟨ret_i (by rw [HM.out, if_neg (by omega), if_pos h2]), rfl⟩
  ·
   go_wp2_with fail
   go_ret
   exact ⟨ret_i (by rw [HM.out, if_neg (by omega), if_neg (by omega)]), rfl⟩
theorem compareU_any (w : World) (a c : Int) : Calls Tryz.prog 79 #[.int .u64 a, .int .u64 c] w fun e w' => e = .returned (.int .i64 (sgn a c)) ∧ w = w' := by
 obtain ⟨m, hm⟩ : ∃ m, m = sgn a c := ⟨_, rfl⟩
 rw [← hm]
 unfold sgn at hm
 have c1 := nanU_any a w
 have c2 := nanU_any c w
 have HM := Lib.hid hm
 clear hm
 go_enter Tryz.func79, Tryz.ntmps79
 go_wp2_with fail
 refine c1.mono ?_
 rintro e w' ⟨rfl, rfl⟩
 go_wp2_with fail
 refine c2.mono ?_
 rintro e w' ⟨rfl, rfl⟩
 clear c1 c2
 by_cases h1 : a < c
 ·
  go_wp2_with fail
  go_ret
  exact ⟨ret_i (by rw [HM.out, if_pos h1]), rfl⟩
 ·
  by_cases h2 : c < a
  ·
   go_wp2_with fail
   go_ret
   exact ⟨ret_i (by rw [HM.out, if_neg (by omega), if_pos h2]), rfl⟩
  ·
   go_wp2_with fail
   go_ret
   exact ⟨ret_i (by rw [HM.out, if_neg (by omega), if_neg (by omega)]), rfl⟩
theorem cmpW_or (x y : BitVec 128) : firstNZ [sgn (hiS x) (hiS y), sgn (loN x) (loN y)] = cmpW x y := by
 unfold cmpW
 by_cases h1 : hiS x < hiS y
 ·
  have hne : x ≠ y := fun e => by rw [e] at h1; omega
  simp [firstNZ, sgn, h1, hne]
 ·
  by_cases h2 : hiS y < hiS x
  ·
   have hne : x ≠ y := fun e => by rw [e] at h2; omega
   have h3 : ¬ hiS x = hiS y := by omega
   simp [firstNZ, sgn, h1, h2, h3, hne]
  ·
   have h3 : hiS x = hiS y := by omega
   by_cases h4 : loN x < loN y
   ·
    have hne : x ≠ y := fun e => by rw [e] at h4; omega
    have h5 : (loN x : Int) < (loN y : Int) := by omega
    simp [firstNZ, sgn, h3, h4, hne]
   ·
    by_cases h5 : loN y < loN x
    ·
     have hne : x ≠ y := fun e => by rw [e] at h5; omega
     simp [firstNZ, sgn, h3, h4, h5, hne]
    ·
     have h6 : loN x = loN y := by omega
     have he := w_inj h3 h6
     simp [firstNZ, sgn, he]
set_option maxHeartbeats 2000000 in
theorem cmp_any (w : World) (x y : BitVec 128) : Calls Tryz.prog 41 #[wv x, wv y] w fun e w' => e = .returned (.int .i64 (cmpW x y)) ∧ Below w.heap.size w w' := by
 have hor0 := cmpW_or x y
 obtain ⟨z, hz⟩ : ∃ z, z = cmpW x y := ⟨_, rfl⟩
 rw [← hz] at hor0
 rw [← hz]
 unfold wv
 obtain ⟨a, ha⟩ : ∃ a, a = hiS x := ⟨_, rfl⟩
 obtain ⟨b, hb⟩ : ∃ b : Int, b = loN x := ⟨_, rfl⟩
 obtain ⟨c, hc⟩ : ∃ c, c = hiS y := ⟨_, rfl⟩
 obtain ⟨d, hd⟩ : ∃ d : Int, d = loN y := ⟨_, rfl⟩
 rw [← ha, ← hb, ← hc, ← hd] at hor0
 rw [← ha, ← hb, ← hc, ← hd]
 clear ha hb hc hd hz
 have hI := fun V => compareI_any V a c
 have hU := fun V => compareU_any V b d
 obtain ⟨s, hs⟩ : ∃ s, s = sgn a c := ⟨_, rfl⟩
 obtain ⟨t, ht⟩ : ∃ t, t = sgn b d := ⟨_, rfl⟩
 rw [← hs] at hI hor0
 rw [← ht] at hU hor0
 clear hs ht
 have hL1 : Lies ((w.alloc (.cells #[.int .i64 a, .int .u64 b] 48)).alloc (.cells #[.int .i64 c, .int .u64 d] 48)) w.heap.size #[.int .i64 a, .int .u64 b] 48 := (Lies.new _ _ _).alloc _
 have hL2 : Lies ((w.alloc (.cells #[.int .i64 a, .int .u64 b] 48)).alloc (.cells #[.int .i64 c, .int .u64 d] 48)) (w.heap.size + 1) #[.int .i64 c, .int .u64 d] 48 := by
  have := Lies.new (w.alloc (.cells #[.int .i64 a, .int .u64 b] 48)) #[.int .i64 c, .int .u64 d] 48
  simpa using this
 have hb0 : Below w.heap.size w ((w.alloc (.cells #[.int .i64 a, .int .u64 b] 48)).alloc (.cells #[.int .i64 c, .int .u64 d] 48)) := ((Below.refl _ _).alloc (Nat.le_refl _) _).alloc (by simp) _
 have H := Lib.hid hb0
 clear hb0
 go_enter Tryz.func41, Tryz.ntmps41
 go_upto_region 1 with fail
 generalize (w.alloc (.cells #[.int .i64 a, .int .u64 b] 48)).alloc (.cells #[.int .i64 c, .int .u64 d] 48) = W0 at hL1 hL2 H ⊢
 obtain ⟨g1, hg1⟩ : ∃ g, g = w.heap.size := ⟨_, rfl⟩
 obtain ⟨g2, hg2⟩ : ∃ g, g = w.heap.size + 1 := ⟨_, rfl⟩
 rw [← hg2] at hL2 ⊢
 rw [← hg1] at hL1 ⊢
 have hkk : ∀ V, Below W0.heap.size W0 V → V.cell? ⟨g1, 0, none⟩ = some (.int .i64 a) ∧ V.cell? ⟨g1, 1, none⟩ = some (.int .u64 b) ∧ V.cell? ⟨g2, 0, none⟩ = some (.int .i64 c) ∧ V.cell? ⟨g2, 1, none⟩ = some (.int .u64 d) := fun V hV =>
  ⟨(hL1.below hV hL1.lt).cell 0 rfl, (hL1.below hV hL1.lt).cell 1 rfl, (hL2.below hV hL2.lt).cell 0 rfl, (hL2.below hV hL2.lt).cell 1 rfl⟩
 have hor : ∀ V : World, V.cell? ⟨W0.heap.size, 0, none⟩ = some (.int .i64 s) → V.cell? ⟨W0.heap.size, 1, none⟩ = some (.int .i64 t) → Calls Tryz.prog 77 #[.slice (some ⟨W0.heap.size, 0, none⟩) 2 2] V fun e w' => e = .returned (.int .i64 z) ∧ V = w' := fun V h1 h2 => by
  have := or_any [s, t] W0.heap.size 2 V (fun j hj => by
   have : j = 0 ∨ j = 1 := by simp at hj; omega
   rcases this with rfl | rfl
   ·
    exact h1
   ·
    exact h2) (by simp)
  rw [hor0] at this
  exact this
 have hs0 := hkk _ ((Below.refl _ _).drew)
 have HK := Lib.hid hkk
 have HI := Lib.hid hI
 have HU := Lib.hid hU
 have HO := Lib.hid hor
 have HB := Lib.hid (show ∀ V, Below W0.heap.size W0 V → Below w.heap.size w V from fun V hV => H.out.trans (hV.mono H.out.size))
 have d0 : Below W0.heap.size W0 W0.drew := (Below.refl _ _).drew
 clear hL1 hL2 hkk hI hU hor hor0 hg1 hg2
 have d1 : ∀ c : Array Value, Below W0.heap.size W0 (W0.drew.alloc (.cells c 3)) := fun c => d0.alloc (Nat.le_refl _) _
 have s1 := HK.out _ (d1 #[.int .i64 s, .int .i64 t])
 have h0 := (Lies.new W0.drew #[.int .i64 s, .int .i64 t] 3).cell 0 (v := .int .i64 s) rfl
 have h1 := (Lies.new W0.drew #[.int .i64 s, .int .i64 t] 3).cell 1 (v := .int .i64 t) rfl
 go_region_held3 (fun V => V.cell? ⟨g1, 0, none⟩ = some (.int .i64 a) ∧ V.cell? ⟨g1, 1, none⟩ = some (.int .u64 b) ∧ V.cell? ⟨g2, 0, none⟩ = some (.int .i64 c) ∧ V.cell? ⟨g2, 1, none⟩ = some (.int .u64 d))
  (first | exact hs0 | exact s1)
  (first
   | (with_reducible refine (HI.out _).mono ?_; rintro e w5 ⟨rfl, rfl⟩)
   | (with_reducible refine (HU.out _).mono ?_; rintro e w5 ⟨rfl, rfl⟩)
   | (with_reducible refine (HO.out _ h0 h1).mono ?_; rintro e w5 ⟨rfl, rfl⟩))
 go_wp2_with fail
 go_ret
 exact ⟨rfl, HB.out _ (((Below.refl _ _).alloc (Nat.le_refl _) _).drew)⟩
end Go.Proofs.YtjngghihciimjaaGreat
namespace Go.Proofs.YtjngghihciimjaaGreat
set_option maxRecDepth 100000
open Go.RowKit Go.Sort
set_option maxHeartbeats 4000000 in
theorem plusR_any (w : World) (pa : Option Addr) (c : Nat) (l : List (BitVec 128)) (h : RowW w pa l) :
  Calls Tryz.prog 36 #[.slice pa l.length c] w fun e w' => e = .returned (wv (sumL l)) ∧ Below w.heap.size w w' := by
 have hli : (l.length : Int) ≤ 9223372036854775807 := by have := h.1; unfold maxLen at this; omega
 have H := Lib.hid h
 clear h
 go_enter Tryz.func36, Tryz.ntmps36
 go_upto_region 3 with fail
 have hL1 : Lies ((w.alloc (.cells #[.int .i64 0, .int .u64 0] 48)).alloc (.cells #[.int .i64 0, .int .u64 0] 48)) w.heap.size #[.int .i64 0, .int .u64 0] 48 := (Lies.new _ _ _).alloc _
 have hL2 : Lies ((w.alloc (.cells #[.int .i64 0, .int .u64 0] 48)).alloc (.cells #[.int .i64 0, .int .u64 0] 48)) (w.heap.size + 1) (wC (sumL (l.take 0))) 48 := by
  have := Lies.new (w.alloc (.cells #[.int .i64 0, .int .u64 0] 48)) #[.int .i64 0, .int .u64 0] 48
  rw [show wC (sumL (l.take 0)) = #[.int .i64 0, .int .u64 0] from wC_zero]
  simpa using this
 have hb1 : Below w.heap.size w ((w.alloc (.cells #[.int .i64 0, .int .u64 0] 48)).alloc (.cells #[.int .i64 0, .int .u64 0] 48)) := ((Below.refl _ _).alloc (Nat.le_refl _) _).alloc (by simp) _
 generalize (w.alloc (.cells #[.int .i64 0, .int .u64 0] 48)).alloc (.cells #[.int .i64 0, .int .u64 0] 48) = W1 at hL1 hL2 hb1 ⊢
 go_loopw [10] (fun i W => ∃ k : Nat, k ≤ l.length ∧ i = .int .i64 k ∧ Below w.heap.size w W ∧ Lies W w.heap.size #[.int .i64 0, .int .u64 0] 48 ∧ Lies W (w.heap.size + 1) (wC (sumL (l.take k))) 48) (fun i _ => l.length - (intOf i).toNat)
 case atStart => exact ⟨0, Nat.zero_le _, rfl, hb1, hL1, hL2⟩
 case round =>
  clear hL1 hL2 hb1
  obtain ⟨k, hk, rfl, hb, z1, z2⟩ := hrel
  by_cases hlt : k < l.length
  ·
   have m1 : (k : Int) < (l.length : Int) := by omega
   have m0 : (0 : Int) ≤ (k : Int) := by omega
   obtain ⟨x, hx⟩ : ∃ x, x = l[k] := ⟨_, rfl⟩
   have hkx : l[k]? = some x := by rw [hx, List.getElem?_eq_getElem hlt]
   obtain ⟨g, off, rfl, hg0, hs0⟩ := H.out.2 (by omega)
   have hrg := (hs0.below hb hg0) k x hkx
   clear hg0 hs0
   obtain ⟨s, hs⟩ : ∃ s, s = sumL (l.take k) := ⟨_, rfl⟩
   have hnext : sumL (l.take (k + 1)) = s + x := by rw [hs]; exact sumL_take hkx
   rw [← hs] at z2
   obtain ⟨vx, hvx⟩ : ∃ v, v = wC x := ⟨_, rfl⟩
   have hvs : vx.size = 2 := by rw [hvx]; rfl
   rw [← hvx] at hrg
   have HRG := Lib.hid hrg
   have HR := Lib.hid (And.intro hb (And.intro z1 (And.intro z2 (And.intro hlt (And.intro hnext (And.intro hvs hvx))))))
   clear hb z1 z2 hlt hk hx hkx hrg hs hnext hvx hvs
   go_upto_region 5 with (first
    | (refine wpList_load_mid rfl 48 _ rfl g (off + k * 2) rfl vx.toList _ HRG.out Tryz.underlying48 rfl (by rw [Array.length_toList, HR.out.2.2.2.2.2.1]; exact info_wide) ?_)
    | (refine wpList_store_row rfl 48 _ _ rfl wr.heap.size vx rfl rfl 48 #[.int .i64 0, .int .u64 0] (Lies.new wr _ 48) (by rw [HR.out.2.2.2.2.2.1]; exact info_wide) HR.out.2.2.2.2.2.1.symm (by rw [HR.out.2.2.2.2.2.2]; exact wC_one x) ?_))
   rw [World.setRow_alloc_new]
   have hL5 : Lies (wr.alloc (.cells vx 48)) wr.heap.size (wC x) 48 := by rw [HR.out.2.2.2.2.2.2]; exact Lies.new _ _ _
   have hL6 : Lies (wr.alloc (.cells vx 48)) (w.heap.size + 1) (wC s) 48 := HR.out.2.2.1.alloc _
   have hL7 : Lies (wr.alloc (.cells vx 48)) w.heap.size #[.int .i64 0, .int .u64 0] 48 := HR.out.2.1.alloc _
   have hb5 : Below w.heap.size w (wr.alloc (.cells vx 48)) := HR.out.1.alloc HR.out.1.size _
   have hne : w.heap.size + 1 ≠ wr.heap.size := by have := HR.out.2.2.1.lt; omega
   generalize wr.alloc (.cells vx 48) = W5 at hL5 hL6 hL7 hb5 ⊢
   have ch := hL6.cell 0 (v := .int .i64 (hiS s)) rfl
   have cl := hL6.cell 1 (v := .int .u64 (loN s)) rfl
   have dh := hL5.cell 0 (v := .int .i64 (hiS x)) rfl
   have dl := hL5.cell 1 (v := .int .u64 (loN x)) rfl
   have HL := Lib.hid (And.intro (loN_lt s) (And.intro (loN_lt x) (And.intro (hi_add s x) (lo_add s x))))
   have H5 := Lib.hid (And.intro hL5 (And.intro hL6 (And.intro hL7 (And.intro hb5 hne))))
   clear hL5 hL6 hL7 hb5 hne
   have hadd := fun W => add64_run (loN s : Int) (loN x : Int) (by omega) (by omega) W
   go_upto_region 6 with fail
   clear hadd
   go_upto_region 7 with (refine wpList_store_row rfl 48 _ _ rfl (w.heap.size + 1) _ rfl rfl 48 (wC s) H5.out.2.1 info_wide rfl (by simp [Value.oneCell']) ?_)
   have e1 : wrap64 (wrap64 (hiS s + hiS x) + wrap64 (((loN s : Int) + (loN x : Int)) / 18446744073709551616)) = hiS (s + x) := by
    rw [HL.out.2.2.1]
    have h1 := HL.out.1
    have h2 := HL.out.2.1
    simp only [IntKind.wrap_i64]
    unfold wrap64
    omega
   have e2 : ((loN s : Int) + (loN x : Int)) % 18446744073709551616 = (loN (s + x) : Int) := by
    rw [HL.out.2.2.2]
    omega
   rw [e1, e2]
   have hz : Lies (W5.setRow (w.heap.size + 1) (wC (s + x))) (w.heap.size + 1) (wC (sumL (l.take (k + 1)))) 48 := by rw [HR.out.2.2.2.2.1]; exact H5.out.2.1.setRow _
   have hz1 : Lies (W5.setRow (w.heap.size + 1) (wC (s + x))) w.heap.size #[.int .i64 0, .int .u64 0] 48 := H5.out.2.2.1.setRowOther _ _ (by omega)
   have hzb : Below w.heap.size w (W5.setRow (w.heap.size + 1) (wC (s + x))) := below_setRow H5.out.2.2.2.1 _ _ (by omega)
   have HZ := Lib.hid (And.intro hzb (And.intro hz1 hz))
   clear hz hz1 hzb ch cl dh dl e1 e2
   change Code.wp _ _ _ _ (W5.setRow (w.heap.size + 1) (wC (s + x)))
   generalize W5.setRow (w.heap.size + 1) (wC (s + x)) = W7 at HZ ⊢
   go_wp2_with fail
   have e1 : (k : Int) + 1 = ((k + 1 : Nat) : Int) := by omega
   rw [e1]
   refine ⟨⟨k + 1, HR.out.2.2.2.1, rfl, HZ.out⟩, ?_⟩
   have h := HR.out.2.2.2.1
   show l.length - (k + 1) < l.length - k
   omega
  ·
   have e1 : k = l.length := by omega
   have m1 : ¬ (k : Int) < (l.length : Int) := by omega
   rw [e1, List.take_length] at z2
   have HF := Lib.hid (And.intro hb (And.intro z1 z2))
   have c0 := z2.cell 0 (v := .int .i64 (hiS (sumL l))) rfl
   have c1 := z2.cell 1 (v := .int .u64 (loN (sumL l))) rfl
   clear hb z1 z2 hk hlt e1
   go_wp2_with (refine wpList_store_row rfl 48 _ _ rfl w.heap.size (wC (sumL l)) rfl rfl 48 #[.int .i64 0, .int .u64 0] HF.out.2.1 info_wide rfl (wC_one _) ?_)
   refine bodyPost_ret (v := wv (sumL l)) (results_cell_row (p := 2) (ty := 48) (by kernel_rfl) _ _ w.heap.size 48 (wC (sumL l)) (0, 0) _ rfl (HF.out.2.1.setRow _) Tryz.underlying48 rfl info_wide) rfl ⟨rfl, below_setRow HF.out.1 _ _ (Nat.le_refl _)⟩
end Go.Proofs.YtjngghihciimjaaGreat
