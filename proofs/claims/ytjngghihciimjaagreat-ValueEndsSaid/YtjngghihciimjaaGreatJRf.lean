/-
  The document's own bundles of sums.
-/
import Derived.Test.YtjngghihciimjaaGreatJRe
namespace Go.Proofs.YtjngghihciimjaaGreat
set_option maxRecDepth 100000
open Go.RowKit Go.Sort Go.Maps
set_option maxHeartbeats 1000000 in
theorem rfits_any (w : World) (x : BitVec 128) : Calls Tryz.prog 88 #[.agg #[.int .i64 (hiS x), .int .u64 (loN x)]] w fun e w' => e = .returned (.bool (fitsW x)) ∧ Below w.heap.size w w' := by
 have hf := fits_halves x
 generalize fitsW x = f at hf ⊢
 generalize hiS x = a at hf ⊢
 generalize loN x = n at hf ⊢
 have hb : Below w.heap.size w (w.alloc (.cells #[.int .i64 a, .int .u64 n] 48)) := (Below.refl _ _).alloc (Nat.le_refl _) _
 have HB := Lib.hid hb
 clear hb
 by_cases h1 : a = 0
 ·
  subst h1
  by_cases h2 : n < 9223372036854775808
  ·
   have e : f = true := hf.2 ⟨rfl, h2⟩
   subst e
   have m1 : (n : Int) ≤ 9223372036854775807 := by omega
   clear hf h2
   go_enter Tryz.func88, Tryz.ntmps88
   go_wp2_with fail
   go_ret
   exact ⟨rfl, HB.out⟩
  ·
   have e : f = false := by
    cases f with
    | false => rfl
    | true => exact absurd (hf.1 rfl).2 h2
   subst e
   have m1 : ¬ (n : Int) ≤ 9223372036854775807 := by omega
   clear hf h2
   go_enter Tryz.func88, Tryz.ntmps88
   go_wp2_with fail
   go_ret
   exact ⟨rfl, HB.out⟩
 ·
  have e : f = false := by
   cases f with
   | false => rfl
   | true => exact absurd (hf.1 rfl).1 h1
  subst e
  have m1 : (a == 0) = false := by simpa using h1
  clear hf
  go_enter Tryz.func88, Tryz.ntmps88
  go_wp2_with fail
  go_ret
  exact ⟨rfl, HB.out⟩
theorem fits_lo {x : BitVec 128} (h : fitsW x = true) : IntKind.i64.wrap (loN x : Int) = (x.toNat : Int) := by
 have h1 := fits_nat h
 have h2 : loN x = x.toNat := by unfold loN; omega
 rw [IntKind.wrap_i64, h2]
 omega
def BunOk (x : BitVec 128) (tl : List To) : Prop := fitsW x = true ∧ tl.length ≤ 30 ∧ ∀ t, t ∈ tl → fitsW t.w = true
def BunRes (x : BitVec 128) (tl : List To) (e : Ending) (w' : World) : Prop := (BunOk x tl ∧ ∃ p c, e = .returned (.tuple #[.agg #[.int .i64 x.toNat, .slice p (asT tl).length c], .bool true]) ∧ Row w' p (asT tl)) ∨ (¬ BunOk x tl ∧ e = .returned (.tuple #[.agg #[.int .i64 0, .slice none 0 0], .bool false]))
structure BWay (w W : World) (b : Nat) (X : Int) (s : Value) (l : List As) : Prop where
 below : Below w.heap.size w W
 res : Lies W (w.heap.size + 1) #[.int .i64 0, .slice none 0 0] 24
 out : Lies W b #[.int .i64 X, s] 24
 own : OwnAs W (b + 1) s l
 far : w.heap.size + 1 < b
theorem BWay.step {w W U : World} {b : Nat} {X : Int} {s : Value} {l : List As} (h : BWay w W b X s l) (hb : Below W.heap.size W U) : BWay w U b X s l :=
 ⟨h.below.trans (hb.mono h.below.size), h.res.below hb h.res.lt, h.out.below hb h.out.lt, ownsRow_below h.own hb, h.far⟩
theorem asT_take {tl : List To} {k : Nat} {y : To} (h : tl[k]? = some y) : asT (tl.take (k + 1)) = asT (tl.take k) ++ [⟨y.nm, y.w.toNat⟩] := by
 unfold asT
 rw [take_next h, List.map_append]
 rfl
theorem asT_ok {w : World} {p : Option Addr} {tl : List To} (h : RowT w p tl) (hf : ∀ t, t ∈ tl → fitsW t.w = true) : ∀ a, a ∈ asT tl → AsOk a := fun a ha => by
 unfold asT at ha
 obtain ⟨t, ht, rfl⟩ := List.mem_map.1 ha
 have h1 := h.2.1 t ht
 have h2 := fits_nat (hf t ht)
 exact ⟨h1.1, h1.2, show (-9223372036854775808 : Int) ≤ (t.w.toNat : Int) by omega, show (t.w.toNat : Int) < 9223372036854775808 by omega⟩
attribute [-go_sem] Instr.build Instr.buildSlice
set_option maxHeartbeats 16000000 in
theorem rbundle_any (w : World) (x : BitVec 128) (pa : Option Addr) (tl : List To) (c : Nat) (h : RowT w pa tl) :
    Calls Tryz.prog 55 #[.agg #[.int .i64 (hiS x), .int .u64 (loN x)], .slice pa tl.length c] w fun e w' => BunRes x tl e w' ∧ Below w.heap.size w w' := by
  have hli : (tl.length : Int) ≤ 9223372036854775807 := by have := h.1; unfold maxLen at this; omega
  have hzb : ∀ W, (Instr.build 24 #[]).run Tryz.prog W = .ok (.agg #[.int .i64 0, .slice none 0 0]) W := fun W => run_build W 24 _ _ (by kernel_rfl)
  obtain ⟨xa, hxa⟩ : ∃ v, v = hiS x := ⟨_, rfl⟩
  obtain ⟨xn, hxn⟩ : ∃ v, v = loN x := ⟨_, rfl⟩
  have hfit : ∀ W, Calls Tryz.prog 88 #[.agg #[.int .i64 xa, .int .u64 xn]] W fun e w' => e = .returned (.bool (fitsW x)) ∧ Below W.heap.size W w' := fun W => by rw [hxa, hxn]; exact rfits_any W x
  rw [← hxa, ← hxn]
  have hb0 : Below w.heap.size w ((w.alloc (.cells #[.int .i64 xa, .int .u64 xn] 48)).alloc (.cells #[.int .i64 0, .slice none 0 0] 24)) := ((Below.refl _ _).alloc (Nat.le_refl _) _).alloc (by simp) _
  have hL2 : Lies ((w.alloc (.cells #[.int .i64 xa, .int .u64 xn] 48)).alloc (.cells #[.int .i64 0, .slice none 0 0] 24)) w.heap.size #[.int .i64 xa, .int .u64 xn] 48 := (Lies.new _ _ _).alloc _
  have hL4 : Lies ((w.alloc (.cells #[.int .i64 xa, .int .u64 xn] 48)).alloc (.cells #[.int .i64 0, .slice none 0 0] 24)) (w.heap.size + 1) #[.int .i64 0, .slice none 0 0] 24 := by
    have := Lies.new (w.alloc (.cells #[.int .i64 xa, .int .u64 xn] 48)) #[.int .i64 0, .slice none 0 0] 24
    simpa using this
  have H := Lib.hid (And.intro h (And.intro hfit (And.intro hxa hxn)))
  clear h hfit hxa hxn
  go_enter Tryz.func55, Tryz.ntmps55
  go_upto_region 1 with fail
  generalize (w.alloc (.cells #[.int .i64 xa, .int .u64 xn] 48)).alloc (.cells #[.int .i64 0, .slice none 0 0] 24) = W0 at hb0 hL2 hL4 ⊢
  have c0 := hL2.cell 0 (v := .int .i64 xa) rfl
  have c1 := hL2.cell 1 (v := .int .u64 xn) rfl
  have H0 := Lib.hid (And.intro hb0 (And.intro hL2 hL4))
  clear hb0 hL2 hL4
  go_wp2_with fail
  refine (H.out.2.1 _).mono ?_
  rintro e W1 ⟨rfl, hb1⟩
  have hL2 := H0.out.2.1.below hb1 H0.out.2.1.lt
  have hL4 := H0.out.2.2.below hb1 H0.out.2.2.lt
  have hb := H0.out.1.trans (hb1.mono H0.out.1.size)
  have hlt1 : w.heap.size + 1 < W1.heap.size := hL4.lt
  have H1 := Lib.hid (And.intro hb (And.intro hL2 (And.intro hL4 hlt1)))
  clear hb1 hL2 hL4 hb hlt1 c0 c1 H0
  obtain ⟨f, hf⟩ : ∃ f, f = fitsW x := ⟨_, rfl⟩
  rw [← hf]
  cases f with
  | false =>
    have hno : ¬ BunOk x tl := fun hh => by have h1 := hh.1; rw [← hf] at h1; cases h1
    have HN := Lib.hid hno
    clear hno hf
    go_wp2_with (refine wpList_store_row rfl 24 _ _ rfl (w.heap.size + 1) #[.int .i64 0, .slice none 0 0] rfl rfl 24 #[.int .i64 0, .slice none 0 0] H1.out.2.2.1 info_value rfl (by simp [Value.oneCell']) ?_)
    refine bodyPost_ret (v := .tuple #[.agg #[.int .i64 0, .slice none 0 0], .bool false]) (results_row_tmp (p := 4) (u := 5) (ty := 24) (by kernel_rfl) _ _ (w.heap.size + 1) 24 #[.int .i64 0, .slice none 0 0] (0, 0) _ rfl (H1.out.2.2.1.setRow _) Tryz.underlying24 rfl info_value) rfl ⟨.inr ⟨HN.out, rfl⟩, below_setRow H1.out.1 _ _ (Nat.le_succ _)⟩
  | true =>
    by_cases h30 : tl.length ≤ 30
    · have m30 : ¬ (30 : Int) < (tl.length : Int) := by omega
      have hcv := fits_lo hf.symm
      rw [← H.out.2.2.2] at hcv
      obtain ⟨X, hX⟩ : ∃ z : Int, z = x.toNat := ⟨_, rfl⟩
      rw [← hX] at hcv
      have hvb : ∀ W, (Instr.build 24 #[(0, .int .i64 X)]).run Tryz.prog W = .ok (.agg #[.int .i64 X, .slice none 0 0]) W := fun W => run_build W 24 _ _ (by kernel_rfl)
      have c1 := H1.out.2.1.cell 1 (v := .int .u64 xn) rfl
      have HF := Lib.hid (And.intro hf (And.intro h30 hX))
      clear hf h30 hX
      go_upto_region 4 with fail
      have hbz : Below W1.heap.size W1 (W1.alloc (.cells #[.int .i64 X, .slice none 0 0] 24)) := (Below.refl _ _).alloc (Nat.le_refl _) _
      have hst : BWay w (W1.alloc (.cells #[.int .i64 X, .slice none 0 0] 24)) W1.heap.size X (.slice none 0 0) [] := ⟨H1.out.1.trans (hbz.mono H1.out.1.size), H1.out.2.2.1.below hbz H1.out.2.2.1.lt, Lies.new _ _ _, World.ownsRow_nil _ _ _ _, H1.out.2.2.2⟩
      obtain ⟨b6, hb6⟩ : ∃ b, b = W1.heap.size := ⟨_, rfl⟩
      generalize W1.alloc (.cells #[.int .i64 X, .slice none 0 0] 24) = W2 at hst ⊢
      rw [← hb6] at hst ⊢
      have HST := Lib.hid hst
      clear hst hbz hb6 c1 hvb hcv m30 H1
      obtain ⟨i0, z0, hi0, hz0, hz1, hz2, hz3⟩ := info_parts info54
      clear hi0 hz0 hz1 hz2 hz3
      go_wp2_with fail
      go_loopw [7] (fun i W => ∃ (k : Nat) (s : Value), k ≤ tl.length ∧ i = .int .i64 k ∧ BWay w W b6 X s (asT (tl.take k)) ∧ (∀ t, t ∈ tl.take k → fitsW t.w = true)) (fun i _ => tl.length - (intOf i).toNat)
      case atStart => exact ⟨0, _, Nat.zero_le _, rfl, HST.out, fun t ht => by simp at ht⟩
      case round =>
        obtain ⟨k, s, hk, rfl, hway, hall⟩ := hrel
        by_cases hlt : k < tl.length
        · have m1 : (k : Int) < (tl.length : Int) := by omega
          have m0 : (0 : Int) ≤ (k : Int) := by omega
          obtain ⟨g, off, rfl, hg, hh⟩ := H.out.1.2.2 (by omega)
          obtain ⟨y, hy⟩ : ∃ y, y = tl[k] := ⟨_, rfl⟩
          have hky : tl[k]? = some y := by rw [hy, List.getElem?_eq_getElem hlt]
          have oky := H.out.1.2.1 y (List.mem_of_getElem? hky)
          have hrY : ∀ U, Below w.heap.size w U → U.rangeAt g (off + k * 35) (toC y).toList := fun U hU => (hh.below hU hg) k y hky
          obtain ⟨c33, c34⟩ := toC_wide oky.1 (hrY wr hway.below)
          have c35 : wr.cell? ⟨g, off + k * 35 + 33 + 1, none⟩ = some (.int .u64 (loN y.w)) := c34
          have hnx := asT_take hky
          have hfy := fun W => rfits_any W y.w
          obtain ⟨f, hf⟩ : ∃ f, f = fitsW y.w := ⟨_, rfl⟩
          rw [← hf] at hfy
          have HR := Lib.hid (And.intro hway (And.intro hlt (And.intro hky (And.intro oky (And.intro hrY (And.intro hnx (And.intro hall (And.intro hf hfy))))))))
          clear hway hlt hky oky hrY hnx hall hf hfy hg hh hy hk
          go_wp2_with fail
          refine (HR.out.2.2.2.2.2.2.2.2 _).mono ?_
          rintro e W3 ⟨rfl, hb3⟩
          have hway := HR.out.1.step hb3
          clear hb3 c33 c34 c35
          cases f with
          | false =>
            have hno : ¬ BunOk x tl := fun hn => by
              have h1 := hn.2.2 y (List.mem_of_getElem? HR.out.2.2.1)
              rw [← HR.out.2.2.2.2.2.2.2.1] at h1
              cases h1
            have HN := Lib.hid (And.intro hno hway)
            clear hno hway
            go_wp2_with (refine wpList_store_row rfl 24 _ _ rfl (w.heap.size + 1) #[.int .i64 0, .slice none 0 0] rfl rfl 24 #[.int .i64 0, .slice none 0 0] HN.out.2.res info_value rfl (by simp [Value.oneCell']) ?_)
            refine bodyPost_ret (v := .tuple #[.agg #[.int .i64 0, .slice none 0 0], .bool false]) (results_row_tmp (p := 4) (u := 5) (ty := 24) (by kernel_rfl) _ _ (w.heap.size + 1) 24 #[.int .i64 0, .slice none 0 0] (0, 0) _ rfl (HN.out.2.res.setRow _) Tryz.underlying24 rfl info_value) rfl ⟨.inr ⟨HN.out.1, rfl⟩, below_setRow HN.out.2.below _ _ (Nat.le_succ _)⟩
          | true =>
            have hlo := fits_lo HR.out.2.2.2.2.2.2.2.1.symm
            obtain ⟨Y, hY⟩ : ∃ z : Int, z = y.w.toNat := ⟨_, rfl⟩
            rw [← hY] at hlo
            obtain ⟨ny, hny⟩ : ∃ z, z = loN y.w := ⟨_, rfl⟩
            rw [← hny] at hlo
            obtain ⟨pw, hpw⟩ : ∃ v, v = B8 y.nm.1 := ⟨_, rfl⟩
            obtain ⟨tw, htw⟩ : ∃ v, v = txt y.nm.2 := ⟨_, rfl⟩
            obtain ⟨av, hav⟩ : ∃ v, v = asC ⟨y.nm, Y⟩ := ⟨_, rfl⟩
            have has : av.size = 34 := by rw [hav]; exact asC_size _ HR.out.2.2.2.1.1
            have hbt : ∀ W, (Instr.build 38 #[(0, .agg pw), (1, .string tw), (2, .int .i64 Y)]).run Tryz.prog W = .ok (.agg av) W := fun W => by
              rw [hpw, htw, hav]
              exact run_build W 38 _ _ (built_asset ⟨y.nm, Y⟩ HR.out.2.2.2.1.1)
            have hsl : ∀ W : World, (Instr.buildSlice 22 1 #[(0, .agg av)]).run Tryz.prog W = .ok (.slice (some ⟨W.heap.size, 0, none⟩) 1 1) (W.alloc (.cells av 38)) := fun W => run_slice1 W 22 38 34 56 av Tryz.underlying22 info54 (by decide) (by decide) has
            have hS0 : ∀ U, Lies U b6 #[.int .i64 X, s] 24 → Below w.heap.size w U → U.cell? ⟨b6, 1, none⟩ = some s ∧ U.rangeAt g (off + k * 35) pw.toList ∧ U.cell? ⟨g, off + k * 35 + 32, none⟩ = some (.string tw) ∧ U.cell? ⟨g, off + k * 35 + 33 + 1, none⟩ = some (.int .u64 ny) := fun U h1 h2 => by
              rw [hpw, htw, hny]
              exact ⟨h1.cell 1 rfl, toC_pol HR.out.2.2.2.1.1 (HR.out.2.2.2.2.1 U h2), toC_str HR.out.2.2.2.1.1 (HR.out.2.2.2.2.1 U h2), (toC_wide HR.out.2.2.2.1.1 (HR.out.2.2.2.2.1 U h2)).2⟩
            have hpz : (Tryz.prog.info? 26).map (·.size) = some pw.size := by rw [hpw, B8_size, HR.out.2.2.2.1.1]; exact info_hash
            have HQ := Lib.hid (And.intro hbt (And.intro hsl (And.intro hS0 (And.intro hpz (And.intro hav hY)))))
            have HW := Lib.hid hway
            clear hbt hsl hS0 hpz hav has hpw htw hny hY hway
            go_upto_region 9 with fail
            refine wp_region_noPanic (wp_region_late (fun j => j == 23) (fun U => U.cell? ⟨b6, 1, none⟩ = some s ∧ U.rangeAt g (off + k * 35) pw.toList ∧ U.cell? ⟨g, off + k * 35 + 32, none⟩ = some (.string tw) ∧ U.cell? ⟨g, off + k * 35 + 33 + 1, none⟩ = some (.int .u64 ny)) (by kernel_rfl) ?_)
            change wpLate _ _ _ _ _ _ 24 _ _ (World.drew W3)
            have hcd : Below W3.heap.size W3 W3.drew := (Below.refl _ _).drew
            have hwd := HW.out.step hcd
            clear hcd
            generalize World.drew W3 = wd at hwd ⊢
            have hcur := HQ.out.2.2.1 wd hwd.out hwd.below
            refine late_take (i := 0) (v := (.pointer (some ⟨b6, 1, none⟩))) rfl 35 rfl (by kernel_rfl) (by kernel_rfl) (by kernel_rfl) (by kernel_rfl) (fun _ _ _ h => h) (by rfl) (by intro w' hS'; unfold execOp; simp [go_sem]) hcur _ rfl ?_
            simp only [Act.put, List.setIfInBounds_toArray, List.set_cons_zero, List.set_cons_succ]
            refine late_take (i := 1) (v := (s)) rfl 36 rfl (by kernel_rfl) (by kernel_rfl) (by kernel_rfl) (by kernel_rfl) (fun _ _ _ h => h) (by rfl) (by intro w' hS'; have q := hS'.1; unfold execOp; simp [go_sem, q]) hcur _ rfl ?_
            simp only [Act.put, List.setIfInBounds_toArray, List.set_cons_zero, List.set_cons_succ]
            refine late_take (i := 2) (v := (.slice (some ⟨g, off, none⟩) tl.length c)) rfl 37 rfl (by kernel_rfl) (by kernel_rfl) (by kernel_rfl) (by kernel_rfl) (fun _ _ _ h => h) (by rfl) (by intro w' hS'; unfold execOp; simp [go_sem]) hcur _ rfl ?_
            simp only [Act.put, List.setIfInBounds_toArray, List.set_cons_zero, List.set_cons_succ]
            refine late_take (i := 3) (v := (.int .i64 k)) rfl 38 rfl (by kernel_rfl) (by kernel_rfl) (by kernel_rfl) (by kernel_rfl) (fun _ _ _ h => h) (by rfl) (by intro w' hS'; unfold execOp; simp [go_sem]) hcur _ rfl ?_
            simp only [Act.put, List.setIfInBounds_toArray, List.set_cons_zero, List.set_cons_succ]
            refine late_take (i := 4) (v := (.pointer (some ⟨g, off + k * 35, none⟩))) rfl 39 rfl (by kernel_rfl) (by kernel_rfl) (by kernel_rfl) (by kernel_rfl) (fun _ _ _ h => h) (by rfl) (by intro w' hS'; unfold execOp; simp [go_sem, m0, m1]) hcur _ rfl ?_
            simp only [Act.put, List.setIfInBounds_toArray, List.set_cons_zero, List.set_cons_succ]
            refine late_take (i := 5) (v := (.pointer (some ⟨g, off + k * 35, none⟩))) rfl 40 rfl (by kernel_rfl) (by kernel_rfl) (by kernel_rfl) (by kernel_rfl) (fun _ _ _ h => h) (by rfl) (by intro w' hS'; unfold execOp; simp [go_sem]) hcur _ rfl ?_
            simp only [Act.put, List.setIfInBounds_toArray, List.set_cons_zero, List.set_cons_succ]
            refine late_take (i := 6) (v := (.agg pw)) rfl 41 rfl (by kernel_rfl) (by kernel_rfl) (by kernel_rfl) (by kernel_rfl) (fun _ _ _ h => h) (by rfl) (by intro w' hS'; exact exec_loadM 26 _ rfl _ _ rfl pw hS'.2.1 Tryz.underlying26 rfl HQ.out.2.2.2.1) hcur _ rfl ?_
            simp only [Act.put, List.setIfInBounds_toArray, List.set_cons_zero, List.set_cons_succ]
            refine late_take (i := 7) (v := (.slice (some ⟨g, off, none⟩) tl.length c)) rfl 42 rfl (by kernel_rfl) (by kernel_rfl) (by kernel_rfl) (by kernel_rfl) (fun _ _ _ h => h) (by rfl) (by intro w' hS'; unfold execOp; simp [go_sem]) hcur _ rfl ?_
            simp only [Act.put, List.setIfInBounds_toArray, List.set_cons_zero, List.set_cons_succ]
            refine late_take (i := 8) (v := (.int .i64 k)) rfl 43 rfl (by kernel_rfl) (by kernel_rfl) (by kernel_rfl) (by kernel_rfl) (fun _ _ _ h => h) (by rfl) (by intro w' hS'; unfold execOp; simp [go_sem]) hcur _ rfl ?_
            simp only [Act.put, List.setIfInBounds_toArray, List.set_cons_zero, List.set_cons_succ]
            refine late_take (i := 9) (v := (.pointer (some ⟨g, off + k * 35, none⟩))) rfl 44 rfl (by kernel_rfl) (by kernel_rfl) (by kernel_rfl) (by kernel_rfl) (fun _ _ _ h => h) (by rfl) (by intro w' hS'; unfold execOp; simp [go_sem, m0, m1]) hcur _ rfl ?_
            simp only [Act.put, List.setIfInBounds_toArray, List.set_cons_zero, List.set_cons_succ]
            refine late_take (i := 10) (v := (.pointer (some ⟨g, off + k * 35 + 32, none⟩))) rfl 45 rfl (by kernel_rfl) (by kernel_rfl) (by kernel_rfl) (by kernel_rfl) (fun _ _ _ h => h) (by rfl) (by intro w' hS'; unfold execOp; simp [go_sem]) hcur _ rfl ?_
            simp only [Act.put, List.setIfInBounds_toArray, List.set_cons_zero, List.set_cons_succ]
            refine late_take (i := 11) (v := (.string tw)) rfl 46 rfl (by kernel_rfl) (by kernel_rfl) (by kernel_rfl) (by kernel_rfl) (fun _ _ _ h => h) (by rfl) (by intro w' hS'; have q := hS'.2.2.1; unfold execOp; simp [go_sem, q]) hcur _ rfl ?_
            simp only [Act.put, List.setIfInBounds_toArray, List.set_cons_zero, List.set_cons_succ]
            refine late_take (i := 12) (v := (.slice (some ⟨g, off, none⟩) tl.length c)) rfl 47 rfl (by kernel_rfl) (by kernel_rfl) (by kernel_rfl) (by kernel_rfl) (fun _ _ _ h => h) (by rfl) (by intro w' hS'; unfold execOp; simp [go_sem]) hcur _ rfl ?_
            simp only [Act.put, List.setIfInBounds_toArray, List.set_cons_zero, List.set_cons_succ]
            refine late_take (i := 13) (v := (.int .i64 k)) rfl 48 rfl (by kernel_rfl) (by kernel_rfl) (by kernel_rfl) (by kernel_rfl) (fun _ _ _ h => h) (by rfl) (by intro w' hS'; unfold execOp; simp [go_sem]) hcur _ rfl ?_
            simp only [Act.put, List.setIfInBounds_toArray, List.set_cons_zero, List.set_cons_succ]
            refine late_take (i := 14) (v := (.pointer (some ⟨g, off + k * 35, none⟩))) rfl 49 rfl (by kernel_rfl) (by kernel_rfl) (by kernel_rfl) (by kernel_rfl) (fun _ _ _ h => h) (by rfl) (by intro w' hS'; unfold execOp; simp [go_sem, m0, m1]) hcur _ rfl ?_
            simp only [Act.put, List.setIfInBounds_toArray, List.set_cons_zero, List.set_cons_succ]
            refine late_take (i := 15) (v := (.pointer (some ⟨g, off + k * 35 + 33, none⟩))) rfl 50 rfl (by kernel_rfl) (by kernel_rfl) (by kernel_rfl) (by kernel_rfl) (fun _ _ _ h => h) (by rfl) (by intro w' hS'; unfold execOp; simp [go_sem]) hcur _ rfl ?_
            simp only [Act.put, List.setIfInBounds_toArray, List.set_cons_zero, List.set_cons_succ]
            refine late_take (i := 16) (v := (.pointer (some ⟨g, off + k * 35 + 33 + 1, none⟩))) rfl 51 rfl (by kernel_rfl) (by kernel_rfl) (by kernel_rfl) (by kernel_rfl) (fun _ _ _ h => h) (by rfl) (by intro w' hS'; unfold execOp; simp [go_sem]) hcur _ rfl ?_
            simp only [Act.put, List.setIfInBounds_toArray, List.set_cons_zero, List.set_cons_succ]
            refine late_take (i := 17) (v := (.int .u64 ny)) rfl 52 rfl (by kernel_rfl) (by kernel_rfl) (by kernel_rfl) (by kernel_rfl) (fun _ _ _ h => h) (by rfl) (by intro w' hS'; have q := hS'.2.2.2; unfold execOp; simp [go_sem, q]) hcur _ rfl ?_
            simp only [Act.put, List.setIfInBounds_toArray, List.set_cons_zero, List.set_cons_succ]
            refine late_take (i := 18) (v := (.int .i64 Y)) rfl 53 rfl (by kernel_rfl) (by kernel_rfl) (by kernel_rfl) (by kernel_rfl) (fun _ _ _ h => h) (by rfl) (by intro w' hS'; unfold execOp; simp [go_sem, hlo]) hcur _ rfl ?_
            simp only [Act.put, List.setIfInBounds_toArray, List.set_cons_zero, List.set_cons_succ]
            refine late_one (i := 19) (by kernel_rfl) _ rfl (wpOp_valG (v := .agg av) (w' := wd) rfl (by rfl) 54 rfl (by have hq := HQ.out.1 wd; unfold execOp; simp [go_sem, hq]) ?_)
            refine ⟨fun _ => hcur, ?_⟩
            simp only [Act.put, List.setIfInBounds_toArray, List.set_cons_zero, List.set_cons_succ]
            refine late_one (i := 20) (by kernel_rfl) _ rfl (wpOp_valG (v := .slice (some ⟨wd.heap.size, 0, none⟩) 1 1) (w' := wd.alloc (.cells av 38)) rfl (by rfl) 55 rfl (by have hq := HQ.out.2.1 wd; unfold execOp; simp [go_sem, hq]) ?_)
            have hba : Below wd.heap.size wd (wd.alloc (.cells av 38)) := (Below.refl _ _).alloc (Nat.le_refl _) _
            have hla : Lies (wd.alloc (.cells av 38)) wd.heap.size av 38 := Lies.new _ _ _
            have hwa := hwd.step hba
            generalize wd.alloc (.cells av 38) = wa at hla hwa ⊢
            obtain ⟨ga, hga⟩ : ∃ b, b = wd.heap.size := ⟨_, rfl⟩
            rw [← hga] at hla ⊢
            have hcur := HQ.out.2.2.1 wa hwa.out hwa.below
            refine ⟨fun _ => hcur, ?_⟩
            simp only [Act.put, List.setIfInBounds_toArray, List.set_cons_zero, List.set_cons_succ]
            have hlen : (asT (tl.take k)).length ≤ 30 := by
              unfold asT
              rw [List.length_map, List.length_take]
              have := HF.out.2.1
              omega
            refine late_one (i := 21) (by kernel_rfl) _ rfl (wpOp_append rfl rfl 56 rfl _ _ 22 rfl (b6 + 1) 38 34 56 Tryz.underlying22 info54 (by decide) s (asT (tl.take k)).length (cellsF asC (asT (tl.take k))) rfl hwa.own ⟨ga, 0, none⟩ 1 1 (cellsF asC [⟨y.nm, Y⟩]) rfl (cellsF_len asC 34 _ (fun a ha => by rw [List.mem_singleton] at ha; rw [ha]; exact asC_size _ HR.out.2.2.2.1.1)) (src_one asC (by rw [← HQ.out.2.2.2.2.1]; exact hla)) (cellsF_one asC _ fun a _ => asC_one a) (by decide) (by unfold maxLen; omega) (by omega) hwa.out.lt ?_)
            intro g9 cap9 w9 hown9 hgr9 hat9 hlt9
            have hL9 := lies_grown hgr9 hwa.out (own_not hwa.own (Nat.lt_succ_self _))
            have hR9 := lies_grown hgr9 hwa.res (own_not hwa.own (Nat.lt_succ_of_lt hwa.far))
            have hb9 := hwa.below.grown hgr9 hwa.below.size (fun j hj => Nat.le_trans (Nat.le_of_lt (Nat.lt_of_lt_of_le (Nat.lt_trans (Nat.lt_succ_self _) (Nat.lt_of_lt_of_le hwa.far (Nat.le_succ _))) (hwa.own.lt j hj).1)) (Nat.le_refl _))
            have hcur := HQ.out.2.2.1 w9 hL9 hb9
            refine ⟨fun _ => hcur, ?_⟩
            simp only [Act.put, List.setIfInBounds_toArray, List.set_cons_zero, List.set_cons_succ]
            have q1 := hcur.1
            have f1 := hL9.free 1
            refine late_one (i := 22) (by kernel_rfl) _ rfl (wpOp_valG (v := .pointer (some ⟨b6, 1, none⟩)) (w' := w9) rfl (by rfl) 57 rfl (by unfold execOp; simp [go_sem]) ?_)
            refine ⟨fun _ => hcur, ?_⟩
            simp only [Act.put, List.setIfInBounds_toArray, List.set_cons_zero, List.set_cons_succ]
            refine late_one (i := 23) (by kernel_rfl) _ rfl (wpOp_skipG (w' := w9.setCell ⟨b6, 1, none⟩ (.slice (some ⟨g9, 0, none⟩) ((asT (tl.take k)).length + 1) cap9)) rfl (by rfl) rfl (by unfold execOp; simp [go_sem, q1, f1]) ?_)
            refine ⟨fun e => (by cases e), ?_⟩
            refine late_done (by kernel_rfl) ?_ _
            unfold NoPanic
            dsimp only
            have hown10 : OwnAs w9 (b6 + 1) (.slice (some ⟨g9, 0, none⟩) ((asT (tl.take k)).length + 1) cap9) (asT (tl.take (k + 1))) := by
              rw [HR.out.2.2.2.2.2.1]
              unfold OwnAs
              rw [cellsF_app, List.length_append, ← HQ.out.2.2.2.2.2]
              exact hown9
            have hway2 : BWay w (w9.setCell ⟨b6, 1, none⟩ (.slice (some ⟨g9, 0, none⟩) ((asT (tl.take k)).length + 1) cap9)) b6 X (.slice (some ⟨g9, 0, none⟩) ((asT (tl.take k)).length + 1) cap9) (asT (tl.take (k + 1))) :=
              ⟨below_setCell hb9 _ _ (Nat.le_of_lt (Nat.lt_trans (Nat.lt_succ_self _) hwa.far)), hR9.other _ _ (Nat.ne_of_lt hwa.far), hL9.set 1 _, hown10.kept (grown_setCell _ _ _) (.inr (fun e => own_not hown10 (Nat.lt_succ_self b6) e.symm)), hwa.far⟩
            have hall2 : ∀ t, t ∈ tl.take (k + 1) → fitsW t.w = true := fun t ht => by
              rw [take_next HR.out.2.2.1] at ht
              rcases List.mem_append.1 ht with ht | ht
              · exact HR.out.2.2.2.2.2.2.1 t ht
              · rw [List.mem_singleton] at ht
                rw [ht]
                exact HR.out.2.2.2.2.2.2.2.1.symm
            have HE := Lib.hid (And.intro hway2 hall2)
            clear hway2 hall2 hown10 q1 f1 hcur hb9 hR9 hL9 hown9 hgr9 hat9 hlt9 hlen hwa hla hga hba hwd hlo
            go_wp2_with fail
            have e1 : (k : Int) + 1 = ((k + 1 : Nat) : Int) := by omega
            rw [e1]
            refine ⟨⟨k + 1, _, HR.out.2.1, rfl, HE.out.1, HE.out.2⟩, ?_⟩
            have h := HR.out.2.1
            show tl.length - (k + 1) < tl.length - k
            omega
        · have m1 : ¬ (k : Int) < (tl.length : Int) := by omega
          have e1 : k = tl.length := by omega
          rw [e1, List.take_length] at hway hall
          have hok := asT_ok H.out.1 hall
          have hlen : (asT tl).length ≤ 30 := by
            unfold asT
            rw [List.length_map]
            exact HF.out.2.1
          obtain ⟨p, c', rfl, hrow⟩ := OwnAs.row hway.own hok (Nat.le_trans hlen (by decide))
          have hyes : BunOk x tl := ⟨HF.out.1.symm, HF.out.2.1, hall⟩
          have q0 := hway.out.cell 0 (v := .int .i64 X) rfl
          have q1 := hway.out.cell 1 (v := .slice p (asT tl).length c') rfl
          have hres := hway.res.setRow #[.int .i64 X, .slice p (asT tl).length c']
          have hrow2 : Row (wr.setRow (w.heap.size + 1) #[.int .i64 X, .slice p (asT tl).length c']) p (asT tl) := ⟨hrow.1, hrow.2.1, fun hl => by
            obtain ⟨ad, cap, cur, e, hB, hg, h3⟩ : ∃ g cap cur, (Value.slice p (asT tl).length c') = .slice (some ⟨g, 0, none⟩) (asT tl).length cap ∧ b6 + 1 ≤ g ∧ wr.heap[g]? = some (.cells cur 38 (0, 0)) ∧ True := by
              rcases hway.own.2 with ⟨_, h2⟩ | ⟨g, cap, cur, h1, h2, h3, _⟩
              · omega
              · exact ⟨g, cap, cur, h1, h2, h3, trivial⟩
            simp only [Value.slice.injEq] at e
            obtain ⟨g2, off2, e2, hlt2, hh2⟩ := hrow.2.2 hl
            rw [e.1] at e2
            cases e2
            refine ⟨ad, 0, e.1, by simpa using hlt2, fun i a hi j v hv => ?_⟩
            have h4 := hh2 i a hi j v hv
            have hne : ad ≠ w.heap.size + 1 := by have := hway.far; omega
            exact (grown_setRow wr (w.heap.size + 1) #[.int .i64 X, .slice p (asT tl).length c']).cell h4 (fun e => hne (Option.some.inj e))⟩
          have hbe := below_setRow hway.below (w.heap.size + 1) #[.int .i64 X, .slice p (asT tl).length c'] (Nat.le_succ _)
          have HE := Lib.hid (And.intro hyes (And.intro hres (And.intro hrow2 (And.intro hbe hway.res))))
          clear hway hall hok hlen hrow hyes hres hrow2 hbe hk hlt e1
          go_wp2_with (refine wpList_store_row rfl 24 _ _ rfl (w.heap.size + 1) #[.int .i64 X, .slice p (asT tl).length c'] rfl rfl 24 #[.int .i64 0, .slice none 0 0] HE.out.2.2.2.2 info_value rfl (by simp [Value.oneCell']) ?_)
          refine bodyPost_ret (v := .tuple #[.agg #[.int .i64 X, .slice p (asT tl).length c'], .bool true]) (results_row_tmp (p := 4) (u := 5) (ty := 24) (by kernel_rfl) _ _ (w.heap.size + 1) 24 #[.int .i64 X, .slice p (asT tl).length c'] (0, 0) _ rfl HE.out.2.1 Tryz.underlying24 rfl info_value) rfl ⟨.inl ⟨HE.out.1, p, c', by rw [HF.out.2.2], HE.out.2.2.1⟩, HE.out.2.2.2.1⟩
    · have m30 : (30 : Int) < (tl.length : Int) := by omega
      have hno : ¬ BunOk x tl := fun hh => h30 hh.2.1
      have HN := Lib.hid hno
      clear hno hf h30
      go_wp2_with (refine wpList_store_row rfl 24 _ _ rfl (w.heap.size + 1) #[.int .i64 0, .slice none 0 0] rfl rfl 24 #[.int .i64 0, .slice none 0 0] H1.out.2.2.1 info_value rfl (by simp [Value.oneCell']) ?_)
      refine bodyPost_ret (v := .tuple #[.agg #[.int .i64 0, .slice none 0 0], .bool false]) (results_row_tmp (p := 4) (u := 5) (ty := 24) (by kernel_rfl) _ _ (w.heap.size + 1) 24 #[.int .i64 0, .slice none 0 0] (0, 0) _ rfl (H1.out.2.2.1.setRow _) Tryz.underlying24 rfl info_value) rfl ⟨.inr ⟨HN.out, rfl⟩, below_setRow H1.out.1 _ _ (Nat.le_succ _)⟩
end Go.Proofs.YtjngghihciimjaaGreat
