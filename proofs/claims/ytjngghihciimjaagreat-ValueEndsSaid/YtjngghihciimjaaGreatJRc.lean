/-
  The document's own totals: one more in its place.
-/
import Derived.Test.YtjngghihciimjaaGreatJRb
import Derived.Test.YtjngghihciimjaaGreatJVsu
namespace Go.Proofs.YtjngghihciimjaaGreat
set_option maxRecDepth 100000
open Go.RowKit Go.Sort Go.Maps
theorem rplus_two (w : World) (g : Nat) (s x : BitVec 128) (hl : Lies w g #[.int .i64 (hiS s), .int .u64 (loN s), .int .i64 (hiS x), .int .u64 (loN x)] 48) :
  Calls Tryz.prog 38 #[.slice (some ⟨g, 0, none⟩) 2 2] w fun e w' => e = .returned (wv (s + x)) ∧ Below w.heap.size w w' := by
 have hhas : HasW w g 0 [s, x] := fun i y hy j v hv => by
  have hr := range_lies hl
  have hi : i = 0 ∨ i = 1 := by have := (List.getElem?_eq_some_iff.1 hy).1; simp at this; omega
  have hj : j < 2 := (List.getElem?_eq_some_iff.1 hv).1
  have hj' : j = 0 ∨ j = 1 := by omega
  rcases hi with rfl | rfl
  ·
   simp only [List.getElem?_cons_zero, Option.some.injEq] at hy
   subst hy
   have := hr j v (by rcases hj' with rfl | rfl <;> exact hv)
   simpa using this
  ·
   simp only [List.getElem?_cons_succ, List.getElem?_cons_zero, Option.some.injEq] at hy
   subst hy
   have := hr (2 + j) v (by rcases hj' with rfl | rfl <;> exact hv)
   simpa using this
 have h := rplus_any w (some ⟨g, 0, none⟩) 2 [s, x] ⟨show 2 ≤ maxLen by decide, fun _ => ⟨g, 0, rfl, hl.lt, hhas⟩⟩
 have e : sumL [s, x] = s + x := by simp [sumL]
 rw [e] at h
 exact h
theorem set_two (p : List UInt8) (h : p.length = 32) (s u v a b : Value) : ((B8 p ++ #[s, u, v]).setIfInBounds 33 a).setIfInBounds 34 b = B8 p ++ #[s, a, b] := by
 obtain ⟨a0, a1, a2, a3, a4, a5, a6, a7, a8, a9, a10, a11, a12, a13, a14, a15, a16, a17, a18, a19, a20, a21, a22, a23, a24, a25, a26, a27, a28, a29, a30, a31, rfl⟩ := list32 p h
 kernel_rfl
theorem toC_set (y : To) (h : y.nm.1.length = 32) (z : BitVec 128) : ((toC y).setIfInBounds 33 (.int .i64 (hiS z))).setIfInBounds 34 (.int .u64 (loN z)) = toC ⟨y.nm, z⟩ := set_two y.nm.1 h _ _ _ _ _
theorem PutAt.len {x : To} {l : List To} {k : Nat} {done : Bool} {out : List To} (h : PutAt x l k done out) : out.length ≤ k + 1 := by
 have h0 : (l.take k).length ≤ k := by rw [List.length_take]; omega
 rcases h with ⟨_, rfl, _⟩ | ⟨_, rfl, _⟩
 ·
  omega
 ·
  have := len_putL x (l.take k)
  omega
theorem toC_pol {U : World} {g off : Nat} {y : To} (h : y.nm.1.length = 32) (hr : U.rangeAt g off (toC y).toList) : U.rangeAt g off (B8 y.nm.1).toList := fun j v hv => hr j v (by
 rw [Array.getElem?_toList] at hv ⊢
 have hj : j < 32 := by
  have := (Array.getElem?_eq_some_iff.1 hv).1
  rw [B8_size, h] at this
  exact this
 rw [toC_get y h j hj, ← B8_get y.nm.1 j (by omega)]
 exact hv)
theorem toC_str {U : World} {g off : Nat} {y : To} (h : y.nm.1.length = 32) (hr : U.rangeAt g off (toC y).toList) : U.cell? ⟨g, off + 32, none⟩ = some (.string (txt y.nm.2)) := hr 32 _ (by rw [Array.getElem?_toList]; exact toC_txt y h)
theorem toC_wide {U : World} {g off : Nat} {y : To} (h : y.nm.1.length = 32) (hr : U.rangeAt g off (toC y).toList) : U.cell? ⟨g, off + 33, none⟩ = some (.int .i64 (hiS y.w)) ∧ U.cell? ⟨g, off + 34, none⟩ = some (.int .u64 (loN y.w)) :=
 ⟨hr 33 _ (by rw [Array.getElem?_toList]; exact toC_hi y h), hr 34 _ (by rw [Array.getElem?_toList]; exact toC_lo y h)⟩
theorem run_wides (W : World) (a b c d : Value) : (Instr.buildSlice 59 2 #[(0, .agg #[a, b]), (1, .agg #[c, d])]).run Tryz.prog W = .ok (.slice (some ⟨W.heap.size, 0, none⟩) 2 2) (W.alloc (.cells #[a, b, c, d] 48)) := by
 obtain ⟨i, z, h1, h2, h3, h4, h5⟩ := info_parts (show (Tryz.prog.info? 48).map (fun i => (i.zero.map (·.cells.size), i.size, i.bytes)) = some (some 2, 2, 16) by kernel_rfl)
 refine run_buildSlice W 59 48 2 _ _ i z Tryz.underlying59 h1 h2 (by rw [h3]; omega) (by rw [h3]; omega) ?_
 rw [h3]
 have h := Great.fill_whole (s := 2) (by decide) [Value.agg #[a, b], Value.agg #[c, d]] ((Array.range (2 * 2)).map (z.cells[· % z.cells.size]!)) (by simp [Value.cells]) (by simp)
 simpa [Value.cells] using h
theorem own_not {W : World} {B b : Nat} {e : TypeId} {k n : Nat} {v : Value} {xs : List Value} (h : W.ownsRow B e k v n xs) (hb : b < B) : some b ≠ v.ownBlock := fun e => by
 have := (h.lt b e.symm).1
 omega
theorem own_base {W : World} {B C : Nat} {e : TypeId} {k n : Nat} {v : Value} {xs : List Value} (h : W.ownsRow B e k v n xs) (hc : C ≤ B) : W.ownsRow C e k v n xs := by
 obtain ⟨h1, h2⟩ := h
 refine ⟨h1, ?_⟩
 rcases h2 with h2 | ⟨g, cap, cur, a, b, c⟩
 ·
  exact .inl h2
 ·
  exact .inr ⟨g, cap, cur, a, Nat.le_trans hc b, c⟩
attribute [-go_sem] Instr.buildSlice
set_option maxHeartbeats 16000000 in
theorem rput_any (w : World) (pa : Option Addr) (c : Nat) (l : List To) (x : To) (h : RowT w pa l) (hr : Rise l) (hx : ToOk x) (hl : l.length ≤ 1000000) :
    Calls Tryz.prog 69 #[.slice pa l.length c, .agg (toC x)] w fun e w' => (∃ v, e = .returned v ∧ OwnTo w' w.heap.size v (putL x l)) ∧ Below w.heap.size w w' := by
  have hli : (l.length : Int) ≤ 9223372036854775807 := by omega
  obtain ⟨ov, hov⟩ : ∃ v, v = toC x := ⟨_, rfl⟩
  rw [← hov]
  have hos : ov.size = 35 := by rw [hov]; exact toC_size x hx.1
  have ho1 : ov.all (·.oneCell') = true := by rw [hov]; exact toC_one x
  have hlo : ∀ U, Lies U w.heap.size ov 75 → U.rangeAt w.heap.size 0 (toC x).toList := fun U hU => by rw [← hov]; exact range_lies hU
  have hslO : ∀ W : World, (Instr.buildSlice 49 1 #[(0, .agg ov)]).run Tryz.prog W = .ok (.slice (some ⟨W.heap.size, 0, none⟩) 1 1) (W.alloc (.cells ov 75)) := fun W => run_slice1 W 49 75 35 64 ov Tryz.underlying49 info48 (by decide) (by decide) hos
  have hb0 : Below w.heap.size w (w.alloc (.cells ov 75)) := (Below.refl _ _).alloc (Nat.le_refl _) _
  have hL3 : Lies (w.alloc (.cells ov 75)) w.heap.size ov 75 := Lies.new _ _ _
  obtain ⟨i0, z0, hi0, hz0, hz1, hz2, hz3⟩ := info_parts info48
  have HI := Lib.hid (And.intro hi0 (And.intro hz0 (And.intro hz1 (And.intro hz2 hz3))))
  have HH := Lib.hid (And.intro h (And.intro hr (And.intro hx (And.intro hl (And.intro hos (And.intro ho1 (And.intro hlo hov)))))))
  have H0 := Lib.hid (And.intro hb0 hL3)
  clear h hr hx hl hos ho1 hlo hb0 hL3 hi0 hz0 hz1 hz2 hz3 hov
  go_enter Tryz.func69, Tryz.ntmps69
  go_wp2_with fail
  go_loopw [5, 6, 7] (fun s d i W => ∃ (k : Nat) (done : Bool) (out : List To), k ≤ l.length ∧ i = .int .i64 k ∧ d = .bool done ∧ PutAt x l k done out ∧ OwnTo W (w.heap.size + 1) s out ∧ Lies W w.heap.size ov 75 ∧ Below w.heap.size w W) (fun _ _ i _ => l.length - (intOf i).toNat)
  case atStart => exact ⟨0, false, [], Nat.zero_le _, rfl, rfl, PutAt.start x l, World.ownsRow_nil _ _ _ _, H0.out.2, H0.out.1⟩
  case round =>
    obtain ⟨k, done, out, hk, rfl, rfl, hP, hown, hL, hb⟩ := hrel
    by_cases hlt : k < l.length
    · have m1 : (k : Int) < (l.length : Int) := by omega
      have m0 : (0 : Int) ≤ (k : Int) := by omega
      obtain ⟨g, off, rfl, hg, hh⟩ := HH.out.1.2.2 (by omega)
      obtain ⟨y, hy⟩ : ∃ y, y = l[k] := ⟨_, rfl⟩
      have hky : l[k]? = some y := by rw [hy, List.getElem?_eq_getElem hlt]
      have oky := HH.out.1.2.1 y (List.mem_of_getElem? hky)
      obtain ⟨yv, hyv⟩ : ∃ v, v = toC y := ⟨_, rfl⟩
      have hys : yv.size = 35 := by rw [hyv]; exact toC_size y oky.1
      have hy1 : yv.all (·.oneCell') = true := by rw [hyv]; exact toC_one y
      have hslY : ∀ (v : To) (vv : Array Value), vv = toC v → v.nm.1.length = 32 → ∀ W : World, (Instr.buildSlice 49 1 #[(0, .agg vv)]).run Tryz.prog W = .ok (.slice (some ⟨W.heap.size, 0, none⟩) 1 1) (W.alloc (.cells vv 75)) := fun v vv e hv W => run_slice1 W 49 75 35 64 vv Tryz.underlying49 info48 (by decide) (by decide) (by rw [e]; exact toC_size v hv)
      have hrY : ∀ U, Below w.heap.size w U → U.rangeAt g (off + k * 35) (toC y).toList := fun U hU => (hh.below hU hg) k y hky
      obtain ⟨pv, hpv⟩ : ∃ v, v = B8 x.nm.1 := ⟨_, rfl⟩
      obtain ⟨tv, htv⟩ : ∃ v, v = txt x.nm.2 := ⟨_, rfl⟩
      obtain ⟨pw, hpw⟩ : ∃ v, v = B8 y.nm.1 := ⟨_, rfl⟩
      obtain ⟨tw, htw⟩ : ∃ v, v = txt y.nm.2 := ⟨_, rfl⟩
      obtain ⟨z, hz⟩ : ∃ z, z = cN x.nm y.nm := ⟨_, rfl⟩
      have hord : ∀ U, Calls Tryz.prog 82 #[.agg pv, .string tv, .agg pw, .string tw] U fun e w' => e = .returned (.int .i64 z) ∧ Below U.heap.size U w' := fun U => by
        rw [hpv, htv, hpw, htw, hz]; exact rorder_any U x.nm y.nm HH.out.2.2.1.1 oky.1
      have hsz1 : (Tryz.prog.info? 26).map (·.size) = some pv.size := by rw [hpv, B8_size, HH.out.2.2.1.1]; exact info_hash
      have hsz2 : (Tryz.prog.info? 26).map (·.size) = some pw.size := by rw [hpw, B8_size, oky.1]; exact info_hash
      have hS0 : ∀ U, Lies U w.heap.size ov 75 → Below w.heap.size w U → U.rangeAt w.heap.size 0 pv.toList ∧ U.cell? ⟨w.heap.size, 32, none⟩ = some (.string tv) ∧ U.rangeAt g (off + k * 35) pw.toList ∧ U.cell? ⟨g, off + k * 35 + 32, none⟩ = some (.string tw) := fun U h1 h2 => by
        have h3 := HH.out.2.2.2.2.2.2.1 U h1
        rw [hpv, htv, hpw, htw]
        have h4 := toC_str HH.out.2.2.1.1 h3
        rw [Nat.zero_add] at h4
        exact ⟨toC_pol HH.out.2.2.1.1 h3, h4, toC_pol oky.1 (hrY U h2), toC_str oky.1 (hrY U h2)⟩
      have HY := Lib.hid (And.intro hky (And.intro oky (And.intro hyv (And.intro hys (And.intro hy1 (And.intro hrY (And.intro hslY hz)))))))
      have HO := Lib.hid (And.intro hord (And.intro hsz1 (And.intro hsz2 hS0)))
      have hol := hP.len
      have HP := Lib.hid (And.intro hP (And.intro hown (And.intro hL (And.intro hb (And.intro hlt hol)))))
      clear hP hown hL hb hlt hol hk hy hky oky hyv hys hy1 hslY hrY hpv htv hpw htw hz hord hsz1 hsz2 hS0 hh hg
      go_upto_region 6 with fail
      refine wp_region_noPanic (wp_region_held (S := fun U => U.rangeAt w.heap.size 0 pv.toList ∧ U.cell? ⟨w.heap.size, 32, none⟩ = some (.string tv) ∧ U.rangeAt g (off + k * 35) pw.toList ∧ U.cell? ⟨g, off + k * 35 + 32, none⟩ = some (.string tw)) (by kernel_rfl) ?_)
      change wpAnyH _ _ _ _ _ 16 _ _ (World.drew wr)
      have hcd : Below wr.heap.size wr wr.drew := (Below.refl _ _).drew
      generalize World.drew wr = wd at hcd ⊢
      have hcur := HO.out.2.2.2 wd (HP.out.2.2.1.below hcd HP.out.2.2.1.lt) (HP.out.2.2.2.1.trans (hcd.mono HP.out.2.2.2.1.size))
      refine tk 0 (.pointer (some ⟨w.heap.size, 0, none⟩)) 16 rfl rfl hcur ?_
      refine tk 1 (.agg pv) 17 rfl rfl hcur ?_ (by intro w' hS'; exact exec_loadM 26 _ rfl _ _ rfl pv hS'.1 Tryz.underlying26 rfl HO.out.2.1)
      refine tk 2 (.pointer (some ⟨w.heap.size, 32, none⟩)) 18 rfl rfl hcur ?_
      refine tk 3 (.string tv) 19 rfl rfl hcur ?_ (by intro w' hS'; have q := hS'.2.1; unfold execOp; simp [go_sem, q])
      refine tk 4 (.slice (some ⟨g, off, none⟩) l.length c) 20 rfl rfl hcur ?_
      refine tk 5 (.int .i64 k) 21 rfl rfl hcur ?_
      refine tk 6 (.pointer (some ⟨g, off + k * 35, none⟩)) 22 rfl rfl hcur ?_ (by intro w' hS'; unfold execOp; simp [go_sem, m0, m1])
      refine tk 7 (.pointer (some ⟨g, off + k * 35, none⟩)) 23 rfl rfl hcur ?_
      refine tk 8 (.agg pw) 24 rfl rfl hcur ?_ (by intro w' hS'; exact exec_loadM 26 _ rfl _ _ rfl pw hS'.2.2.1 Tryz.underlying26 rfl HO.out.2.2.1)
      refine tk 9 (.slice (some ⟨g, off, none⟩) l.length c) 25 rfl rfl hcur ?_
      refine tk 10 (.int .i64 k) 26 rfl rfl hcur ?_
      refine tk 11 (.pointer (some ⟨g, off + k * 35, none⟩)) 27 rfl rfl hcur ?_ (by intro w' hS'; unfold execOp; simp [go_sem, m0, m1])
      refine tk 12 (.pointer (some ⟨g, off + k * 35 + 32, none⟩)) 28 rfl rfl hcur ?_
      refine tk 13 (.string tw) 29 rfl rfl hcur ?_ (by intro w' hS'; have q := hS'.2.2.2; unfold execOp; simp [go_sem, q])
      refine held_one (i := 14) (by kernel_rfl) _ rfl (wpOp_callG rfl (by rfl) 30 rfl 82 #[.agg pv, .string tv, .agg pw, .string tw] (by unfold execOp; simp [go_sem]) _ (ret_of (HO.out.1 _)) ?_)
      rintro v1 w1 ⟨rfl, hb1⟩
      have hc1 := hcd.trans (hb1.mono hcd.size)
      have hL := HP.out.2.2.1.below hc1 HP.out.2.2.1.lt
      have hb := HP.out.2.2.2.1.trans (hc1.mono HP.out.2.2.2.1.size)
      have hcur := HO.out.2.2.2 w1 hL hb
      refine ⟨hcur, ?_⟩
      simp only [Act.put, List.setIfInBounds_toArray, List.set_cons_zero, List.set_cons_succ]
      refine tk 15 (.int .i64 z) 8 rfl rfl hcur ?_
      refine wpAnyH_done (by kernel_rfl) ?_ _
      unfold NoPanic
      dsimp only
      have hown : OwnTo w1 (w.heap.size + 1) u5 out := ownsRow_below HP.out.2.1 hc1
      have H1 := Lib.hid (And.intro hown (And.intro hL hb))
      clear hcur hb1 hc1 hcd hown hL hb
      cases done with
      | true =>
        obtain ⟨hzn, hPn⟩ := HP.out.1.behind HH.out.2.1 HY.out.1
        have hzz : z < 0 := by rw [HY.out.2.2.2.2.2.2.2]; exact hzn
        have hze : (z == 0) = false := by
          have : z ≠ 0 := by omega
          simpa using this
        have HPN := Lib.hid hPn
        clear hzn hPn
        have HO3 : Hid ((out).length + 1 ≤ maxLen ∧ ((out).length + 1) * 64 ≤ 140737488355328) := Lib.hid (by
          have h1 := HP.out.2.2.2.2.2
          have h2 := HP.out.2.2.2.2.1
          have h3 := HH.out.2.2.2.1
          skip
          unfold maxLen
          omega)
        go_upto_region 11 with (first
          | (refine wpList_load_mid rfl 75 _ rfl g (off + k * 35) rfl yv.toList _ (by rw [HY.out.2.2.1]; exact HY.out.2.2.2.2.2.1 _ H1.out.2.2) Tryz.underlying75 rfl (by rw [Array.length_toList, HY.out.2.2.2.1]; exact info_total) ?_)
          | (refine wpList_store_row rfl 75 _ _ rfl w1.heap.size yv rfl rfl 75 z35 (Lies.new w1 z35 75) (by rw [HY.out.2.2.2.1]; exact info_total) (by rw [HY.out.2.2.2.1]; kernel_rfl) HY.out.2.2.2.2.1 ?_))
        rw [World.setRow_alloc_new]
        have hba : Below w1.heap.size w1 (w1.alloc (.cells yv 75)) := (Below.refl _ _).alloc (Nat.le_refl _) _
        have hL9 : Lies (w1.alloc (.cells yv 75)) w1.heap.size yv 75 := Lies.new _ _ _
        have hown : OwnTo (w1.alloc (.cells yv 75)) (w.heap.size + 1) u5 (out) := ownsRow_below H1.out.1 hba
        have hfar := ownsRow_new H1.out.1
        have hL := H1.out.2.1.below hba H1.out.2.1.lt
        have hb := H1.out.2.2.trans (hba.mono H1.out.2.2.size)
        have hge : w.heap.size < w1.heap.size := H1.out.2.1.lt
        generalize w1.alloc (.cells yv 75) = wa at hba hL9 hown hL hb ⊢
        obtain ⟨b9, hb9⟩ : ∃ b, b = w1.heap.size := ⟨_, rfl⟩
        rw [← hb9] at hL9 hfar hge ⊢
        have HA := Lib.hid (And.intro hown (And.intro hL9 (And.intro hL (And.intro hb (And.intro hfar hge)))))
        clear hba hb9 hL9 hown hfar hL hb hge
        have hsl := HY.out.2.2.2.2.2.2.1 y yv HY.out.2.2.1 HY.out.2.1.1
        have hbz : Below wa.heap.size wa (wa.alloc (.cells yv 75)) := (Below.refl _ _).alloc (Nat.le_refl _) _
        have hownz : OwnTo (wa.alloc (.cells yv 75)) (w.heap.size + 1) u5 (out) := ownsRow_below HA.out.1 hbz
        have hsrc := src_one toC (a := y) (by rw [← HY.out.2.2.1]; exact Lies.new wa yv 75)
        have hbb := HA.out.2.2.2.1.trans (hbz.mono HA.out.2.2.2.1.size)
        have hLz := HA.out.2.2.1.below hbz HA.out.2.2.1.lt
        have HT := Lib.hid (And.intro hownz (And.intro hsrc (And.intro hbb hLz)))
        have hvs : yv.size = 35 := by rw [HY.out.2.2.1]; exact toC_size _ HY.out.2.1.1
        have HV := Lib.hid hvs
        clear hbz hownz hsrc hbb hLz hvs
        go_wp2_with (first
          | (refine wpList_load_mid rfl 75 _ rfl b9 0 rfl yv.toList _ (range_lies HA.out.2.1) Tryz.underlying75 rfl (by rw [Array.length_toList, HV.out]; exact info_total) ?_)
          | (at_builtin; go_must (refine wpList_append_own_at _ rfl _ _ 49 rfl (w.heap.size + 1) 75 i0 z0 35 64 Tryz.underlying49 HI.out.1 HI.out.2.1 HI.out.2.2.1 HI.out.2.2.2.1 HI.out.2.2.2.2 (by decide) _ (out).length _ rfl HT.out.1 ⟨wa.heap.size, 0, none⟩ 1 1 (cellsF toC [y]) rfl (cellsF_len toC 35 _ fun a ha => by rw [List.mem_singleton] at ha; rw [ha]; exact toC_size _ HY.out.2.1.1) HT.out.2.1 (cellsF_one toC _ fun a _ => toC_one a) HO3.out.1 HO3.out.2 (by have := HT.out.2.2.2.lt; omega) ?_; intro v' wz hown' hgrow _ hat)))
        have hownf : OwnTo wz (w.heap.size + 1) v' ((out) ++ [y]) := by
          unfold OwnTo
          rw [cellsF_app, List.length_append]
          exact hown'
        have hLf := lies_grown hgrow HT.out.2.2.2 (own_not HT.out.1 (Nat.lt_succ_self _))
        have hbf := HT.out.2.2.1.grown hgrow HT.out.2.2.1.size (fun j hj => Nat.le_trans (Nat.le_succ _) (HT.out.1.lt j hj).1)
        have e1 : (k : Int) + 1 = ((k + 1 : Nat) : Int) := by omega
        rw [e1]
        refine ⟨⟨k + 1, true, _, HP.out.2.2.2.2.1, rfl, rfl, HPN.out, hownf, hLf, hbf⟩, ?_⟩
        have h := HP.out.2.2.2.2.1
        show l.length - (k + 1) < l.length - k
        omega
      | false =>
        have hzd := HY.out.2.2.2.2.2.2.2
        rcases Int.lt_trichotomy z 0 with hzz | hzz | hzz
        · have hPn := HP.out.1.ahead HY.out.1 (by rw [← hzd]; exact hzz)
          have hze : (z == 0) = false := by
            have : z ≠ 0 := by omega
            simpa using this
          have HPN := Lib.hid hPn
          clear hPn hzd
          have HO3 : Hid ((out).length + 1 ≤ maxLen ∧ ((out).length + 1) * 64 ≤ 140737488355328) := Lib.hid (by
            have h1 := HP.out.2.2.2.2.2
            have h2 := HP.out.2.2.2.2.1
            have h3 := HH.out.2.2.2.1
            skip
            unfold maxLen
            omega)
          have hbz : Below w1.heap.size w1 (w1.alloc (.cells ov 75)) := (Below.refl _ _).alloc (Nat.le_refl _) _
          have hownz : OwnTo (w1.alloc (.cells ov 75)) (w.heap.size + 1) u5 (out) := ownsRow_below H1.out.1 hbz
          have hsrc := src_one toC (a := x) (by rw [← HH.out.2.2.2.2.2.2.2]; exact Lies.new w1 ov 75)
          have hbb := H1.out.2.2.trans (hbz.mono H1.out.2.2.size)
          have hLz := H1.out.2.1.below hbz H1.out.2.1.lt
          have HT := Lib.hid (And.intro hownz (And.intro hsrc (And.intro hbb hLz)))
          clear hbz hownz hsrc hbb hLz
          go_upto_region 10 with (first
            | (refine wpList_load_mid rfl 75 _ rfl w.heap.size 0 rfl ov.toList _ (range_lies H1.out.2.1) Tryz.underlying75 rfl (by rw [Array.length_toList, HH.out.2.2.2.2.1]; exact info_total) ?_)
            | (at_builtin; go_must (refine wpList_append_own_at _ rfl _ _ 49 rfl (w.heap.size + 1) 75 i0 z0 35 64 Tryz.underlying49 HI.out.1 HI.out.2.1 HI.out.2.2.1 HI.out.2.2.2.1 HI.out.2.2.2.2 (by decide) _ (out).length _ rfl HT.out.1 ⟨w1.heap.size, 0, none⟩ 1 1 (cellsF toC [x]) rfl (cellsF_len toC 35 _ fun a ha => by rw [List.mem_singleton] at ha; rw [ha]; exact toC_size _ HH.out.2.2.1.1) HT.out.2.1 (cellsF_one toC _ fun a _ => toC_one a) HO3.out.1 HO3.out.2 (by have := HT.out.2.2.2.lt; omega) ?_; intro vx wx hown' hgrow _ hat)))
          have hownf : OwnTo wx (w.heap.size + 1) vx ((out) ++ [x]) := by
            unfold OwnTo
            rw [cellsF_app, List.length_append]
            exact hown'
          have hLf := lies_grown hgrow HT.out.2.2.2 (own_not HT.out.1 (Nat.lt_succ_self _))
          have hbf := HT.out.2.2.1.grown hgrow HT.out.2.2.1.size (fun j hj => Nat.le_trans (Nat.le_succ _) (HT.out.1.lt j hj).1)
          have HX := Lib.hid (And.intro hownf (And.intro hLf hbf))
          clear hownf hLf hbf hown' hgrow hat HT HO3
          have HO3 : Hid ((out ++ [x]).length + 1 ≤ maxLen ∧ ((out ++ [x]).length + 1) * 64 ≤ 140737488355328) := Lib.hid (by
            have h1 := HP.out.2.2.2.2.2
            have h2 := HP.out.2.2.2.2.1
            have h3 := HH.out.2.2.2.1
            rw [List.length_append, List.length_singleton]
            unfold maxLen
            omega)
          go_upto_region 11 with (first
            | (refine wpList_load_mid rfl 75 _ rfl g (off + k * 35) rfl yv.toList _ (by rw [HY.out.2.2.1]; exact HY.out.2.2.2.2.2.1 _ HX.out.2.2) Tryz.underlying75 rfl (by rw [Array.length_toList, HY.out.2.2.2.1]; exact info_total) ?_)
            | (refine wpList_store_row rfl 75 _ _ rfl wx.heap.size yv rfl rfl 75 z35 (Lies.new wx z35 75) (by rw [HY.out.2.2.2.1]; exact info_total) (by rw [HY.out.2.2.2.1]; kernel_rfl) HY.out.2.2.2.2.1 ?_))
          rw [World.setRow_alloc_new]
          have hba : Below wx.heap.size wx (wx.alloc (.cells yv 75)) := (Below.refl _ _).alloc (Nat.le_refl _) _
          have hL9 : Lies (wx.alloc (.cells yv 75)) wx.heap.size yv 75 := Lies.new _ _ _
          have hown : OwnTo (wx.alloc (.cells yv 75)) (w.heap.size + 1) vx (out ++ [x]) := ownsRow_below HX.out.1 hba
          have hfar := ownsRow_new HX.out.1
          have hL := HX.out.2.1.below hba HX.out.2.1.lt
          have hb := HX.out.2.2.trans (hba.mono HX.out.2.2.size)
          have hge : w.heap.size < wx.heap.size := HX.out.2.1.lt
          generalize wx.alloc (.cells yv 75) = wa at hba hL9 hown hL hb ⊢
          obtain ⟨b9, hb9⟩ : ∃ b, b = wx.heap.size := ⟨_, rfl⟩
          rw [← hb9] at hL9 hfar hge ⊢
          have HA := Lib.hid (And.intro hown (And.intro hL9 (And.intro hL (And.intro hb (And.intro hfar hge)))))
          clear hba hb9 hL9 hown hfar hL hb hge
          have hsl := HY.out.2.2.2.2.2.2.1 y yv HY.out.2.2.1 HY.out.2.1.1
          have hbz : Below wa.heap.size wa (wa.alloc (.cells yv 75)) := (Below.refl _ _).alloc (Nat.le_refl _) _
          have hownz : OwnTo (wa.alloc (.cells yv 75)) (w.heap.size + 1) vx (out ++ [x]) := ownsRow_below HA.out.1 hbz
          have hsrc := src_one toC (a := y) (by rw [← HY.out.2.2.1]; exact Lies.new wa yv 75)
          have hbb := HA.out.2.2.2.1.trans (hbz.mono HA.out.2.2.2.1.size)
          have hLz := HA.out.2.2.1.below hbz HA.out.2.2.1.lt
          have HT := Lib.hid (And.intro hownz (And.intro hsrc (And.intro hbb hLz)))
          have hvs : yv.size = 35 := by rw [HY.out.2.2.1]; exact toC_size _ HY.out.2.1.1
          have HV := Lib.hid hvs
          clear hbz hownz hsrc hbb hLz hvs
          go_wp2_with (first
            | (refine wpList_load_mid rfl 75 _ rfl b9 0 rfl yv.toList _ (range_lies HA.out.2.1) Tryz.underlying75 rfl (by rw [Array.length_toList, HV.out]; exact info_total) ?_)
            | (at_builtin; go_must (refine wpList_append_own_at _ rfl _ _ 49 rfl (w.heap.size + 1) 75 i0 z0 35 64 Tryz.underlying49 HI.out.1 HI.out.2.1 HI.out.2.2.1 HI.out.2.2.2.1 HI.out.2.2.2.2 (by decide) _ (out ++ [x]).length _ rfl HT.out.1 ⟨wa.heap.size, 0, none⟩ 1 1 (cellsF toC [y]) rfl (cellsF_len toC 35 _ fun a ha => by rw [List.mem_singleton] at ha; rw [ha]; exact toC_size _ HY.out.2.1.1) HT.out.2.1 (cellsF_one toC _ fun a _ => toC_one a) HO3.out.1 HO3.out.2 (by have := HT.out.2.2.2.lt; omega) ?_; intro v' wz hown' hgrow _ hat)))
          have hownf : OwnTo wz (w.heap.size + 1) v' ((out ++ [x]) ++ [y]) := by
            unfold OwnTo
            rw [cellsF_app, List.length_append]
            exact hown'
          have hLf := lies_grown hgrow HT.out.2.2.2 (own_not HT.out.1 (Nat.lt_succ_self _))
          have hbf := HT.out.2.2.1.grown hgrow HT.out.2.2.1.size (fun j hj => Nat.le_trans (Nat.le_succ _) (HT.out.1.lt j hj).1)
          have e1 : (k : Int) + 1 = ((k + 1 : Nat) : Int) := by omega
          rw [e1]
          refine ⟨⟨k + 1, true, _, HP.out.2.2.2.2.1, rfl, rfl, HPN.out, hownf, hLf, hbf⟩, ?_⟩
          have h := HP.out.2.2.2.2.1
          show l.length - (k + 1) < l.length - k
          omega
        · have hPn := HP.out.1.meet HY.out.1 (by rw [← hzd]; exact hzz)
          subst hzz
          have HPN := Lib.hid hPn
          clear hPn hzd
          have HO3 : Hid ((out).length + 1 ≤ maxLen ∧ ((out).length + 1) * 64 ≤ 140737488355328) := Lib.hid (by
            have h1 := HP.out.2.2.2.2.2
            have h2 := HP.out.2.2.2.2.1
            have h3 := HH.out.2.2.2.1
            skip
            unfold maxLen
            omega)
          go_upto_region 11 with (first
            | (refine wpList_load_mid rfl 75 _ rfl g (off + k * 35) rfl yv.toList _ (by rw [HY.out.2.2.1]; exact HY.out.2.2.2.2.2.1 _ H1.out.2.2) Tryz.underlying75 rfl (by rw [Array.length_toList, HY.out.2.2.2.1]; exact info_total) ?_)
            | (refine wpList_store_row rfl 75 _ _ rfl w1.heap.size yv rfl rfl 75 z35 (Lies.new w1 z35 75) (by rw [HY.out.2.2.2.1]; exact info_total) (by rw [HY.out.2.2.2.1]; kernel_rfl) HY.out.2.2.2.2.1 ?_))
          rw [World.setRow_alloc_new]
          have hba : Below w1.heap.size w1 (w1.alloc (.cells yv 75)) := (Below.refl _ _).alloc (Nat.le_refl _) _
          have hL9 : Lies (w1.alloc (.cells yv 75)) w1.heap.size yv 75 := Lies.new _ _ _
          have hown : OwnTo (w1.alloc (.cells yv 75)) (w.heap.size + 1) u5 (out) := ownsRow_below H1.out.1 hba
          have hfar := ownsRow_new H1.out.1
          have hL := H1.out.2.1.below hba H1.out.2.1.lt
          have hb := H1.out.2.2.trans (hba.mono H1.out.2.2.size)
          have hge : w.heap.size < w1.heap.size := H1.out.2.1.lt
          generalize w1.alloc (.cells yv 75) = wa at hba hL9 hown hL hb ⊢
          obtain ⟨b9, hb9⟩ : ∃ b, b = w1.heap.size := ⟨_, rfl⟩
          rw [← hb9] at hL9 hfar hge ⊢
          have HA := Lib.hid (And.intro hown (And.intro hL9 (And.intro hL (And.intro hb (And.intro hfar hge)))))
          clear hba hb9 hL9 hown hfar hL hb hge
          have hwy := toC_wide HY.out.2.1.1 (by rw [← HY.out.2.2.1]; exact range_lies HA.out.2.1)
          have hwx := toC_wide HH.out.2.2.1.1 (HH.out.2.2.2.2.2.2.1 _ HA.out.2.2.1)
          simp only [Nat.zero_add] at hwy hwx
          obtain ⟨c33, c34⟩ := hwy
          obtain ⟨d33, d34⟩ := hwx
          have hslW := fun W => run_wides W (.int .i64 (hiS y.w)) (.int .u64 (loN y.w)) (.int .i64 (hiS x.w)) (.int .u64 (loN x.w))
          have hbp : Below wa.heap.size wa (wa.alloc (.cells #[.int .i64 (hiS y.w), .int .u64 (loN y.w), .int .i64 (hiS x.w), .int .u64 (loN x.w)] 48)) := (Below.refl _ _).alloc (Nat.le_refl _) _
          have hpl := rplus_two _ wa.heap.size y.w x.w (Lies.new wa #[.int .i64 (hiS y.w), .int .u64 (loN y.w), .int .i64 (hiS x.w), .int .u64 (loN x.w)] 48)
          have HPL := Lib.hid (And.intro hpl hbp)
          clear hpl hbp
          go_wp2_with fail
          refine HPL.out.1.mono ?_
          rintro e wb ⟨rfl, hb2⟩
          have hc2 := HPL.out.2.trans (hb2.mono HPL.out.2.size)
          have hL9 := HA.out.2.1.below hc2 HA.out.2.1.lt
          have hown : OwnTo wb (w.heap.size + 1) u5 out := ownsRow_below HA.out.1 hc2
          have hL := HA.out.2.2.1.below hc2 HA.out.2.2.1.lt
          have hb := HA.out.2.2.2.1.trans (hc2.mono HA.out.2.2.2.1.size)
          have hwy := toC_wide HY.out.2.1.1 (by rw [← HY.out.2.2.1]; exact range_lies hL9)
          simp only [Nat.zero_add] at hwy
          obtain ⟨e33, e34⟩ := hwy
          have f33 := hL9.free 33
          have f34 := hL9.free 34
          obtain ⟨T, hT⟩ : ∃ x', x' = y.w + x.w := ⟨_, rfl⟩
          rw [← hT]
          rw [← hT] at HPN
          have HB := Lib.hid (And.intro hown (And.intro hL9 (And.intro hL (And.intro hb hT))))
          clear hb2 hc2 hL9 hown hL hb hT c33 c34 d33 d34 hslW HPL
          unfold wv
          go_upto_region 14 with fail
          clear e33 e34 f33 f34
          have hg2 : wb.grownBy ((wb.setCell ⟨b9, 33, none⟩ (.int .i64 (hiS T))).setCell ⟨b9, 34, none⟩ (.int .u64 (loN T))) (some b9) := (grown_setCell wb ⟨b9, 33, none⟩ _).trans (grown_setCell _ ⟨b9, 34, none⟩ _)
          have hL9 : Lies ((wb.setCell ⟨b9, 33, none⟩ (.int .i64 (hiS T))).setCell ⟨b9, 34, none⟩ (.int .u64 (loN T))) b9 (toC ⟨y.nm, T⟩) 75 := by
            rw [← toC_set y HY.out.2.1.1 T, ← HY.out.2.2.1]
            exact (HB.out.2.1.set 33 _).set 34 _
          have hown : OwnTo ((wb.setCell ⟨b9, 33, none⟩ (.int .i64 (hiS T))).setCell ⟨b9, 34, none⟩ (.int .u64 (loN T))) (w.heap.size + 1) u5 out := HB.out.1.kept hg2 (.inr HA.out.2.2.2.2.1)
          have hL := (HB.out.2.2.1.other ⟨b9, 33, none⟩ (.int .i64 (hiS T)) (Nat.ne_of_lt HA.out.2.2.2.2.2)).other ⟨b9, 34, none⟩ (.int .u64 (loN T)) (Nat.ne_of_lt HA.out.2.2.2.2.2)
          have hb := below_setCell (below_setCell HB.out.2.2.2.1 ⟨b9, 33, none⟩ (.int .i64 (hiS T)) (Nat.le_of_lt HA.out.2.2.2.2.2)) ⟨b9, 34, none⟩ (.int .u64 (loN T)) (Nat.le_of_lt HA.out.2.2.2.2.2)
          generalize (wb.setCell ⟨b9, 33, none⟩ (.int .i64 (hiS T))).setCell ⟨b9, 34, none⟩ (.int .u64 (loN T)) = wd2 at hg2 hL9 hown hL hb ⊢
          obtain ⟨tv2, htv2⟩ : ∃ v, v = toC ⟨y.nm, T⟩ := ⟨_, rfl⟩
          rw [← htv2] at hL9
          have HC := Lib.hid (And.intro hown (And.intro hL9 (And.intro hL hb)))
          clear hg2 hL9 hown hL hb HB
          have HTV := Lib.hid htv2
          have HC2 := Lib.hid (And.intro HC.out.1 (And.intro HC.out.2.1 (And.intro HC.out.2.2.1 (And.intro HC.out.2.2.2 trivial))))
          clear htv2
          have hsl := HY.out.2.2.2.2.2.2.1 (⟨y.nm, T⟩ : To) tv2 HTV.out HY.out.2.1.1
          have hbz : Below wd2.heap.size wd2 (wd2.alloc (.cells tv2 75)) := (Below.refl _ _).alloc (Nat.le_refl _) _
          have hownz : OwnTo (wd2.alloc (.cells tv2 75)) (w.heap.size + 1) u5 (out) := ownsRow_below HC2.out.1 hbz
          have hsrc := src_one toC (a := (⟨y.nm, T⟩ : To)) (by rw [← HTV.out]; exact Lies.new wd2 tv2 75)
          have hbb := HC2.out.2.2.2.1.trans (hbz.mono HC2.out.2.2.2.1.size)
          have hLz := HC2.out.2.2.1.below hbz HC2.out.2.2.1.lt
          have HT := Lib.hid (And.intro hownz (And.intro hsrc (And.intro hbb hLz)))
          have hvs : tv2.size = 35 := by rw [HTV.out]; exact toC_size _ HY.out.2.1.1
          have HV := Lib.hid hvs
          clear hbz hownz hsrc hbb hLz hvs
          go_wp2_with (first
            | (refine wpList_load_mid rfl 75 _ rfl b9 0 rfl tv2.toList _ (range_lies HC2.out.2.1) Tryz.underlying75 rfl (by rw [Array.length_toList, HV.out]; exact info_total) ?_)
            | (at_builtin; go_must (refine wpList_append_own_at _ rfl _ _ 49 rfl (w.heap.size + 1) 75 i0 z0 35 64 Tryz.underlying49 HI.out.1 HI.out.2.1 HI.out.2.2.1 HI.out.2.2.2.1 HI.out.2.2.2.2 (by decide) _ (out).length _ rfl HT.out.1 ⟨wd2.heap.size, 0, none⟩ 1 1 (cellsF toC [(⟨y.nm, T⟩ : To)]) rfl (cellsF_len toC 35 _ fun a ha => by rw [List.mem_singleton] at ha; rw [ha]; exact toC_size _ HY.out.2.1.1) HT.out.2.1 (cellsF_one toC _ fun a _ => toC_one a) HO3.out.1 HO3.out.2 (by have := HT.out.2.2.2.lt; omega) ?_; intro v' wz hown' hgrow _ hat)))
          have hownf : OwnTo wz (w.heap.size + 1) v' ((out) ++ [(⟨y.nm, T⟩ : To)]) := by
            unfold OwnTo
            rw [cellsF_app, List.length_append]
            exact hown'
          have hLf := lies_grown hgrow HT.out.2.2.2 (own_not HT.out.1 (Nat.lt_succ_self _))
          have hbf := HT.out.2.2.1.grown hgrow HT.out.2.2.1.size (fun j hj => Nat.le_trans (Nat.le_succ _) (HT.out.1.lt j hj).1)
          have e1 : (k : Int) + 1 = ((k + 1 : Nat) : Int) := by omega
          rw [e1]
          refine ⟨⟨k + 1, true, _, HP.out.2.2.2.2.1, rfl, rfl, HPN.out, hownf, hLf, hbf⟩, ?_⟩
          have h := HP.out.2.2.2.2.1
          show l.length - (k + 1) < l.length - k
          omega
        · skip
          have hPn := HP.out.1.pass HY.out.1 (by rw [← hzd]; exact hzz)
          have hze : (z == 0) = false := by
            have : z ≠ 0 := by omega
            simpa using this
          have hzn : ¬ z < 0 := by omega
          have HPN := Lib.hid hPn
          clear hPn hzd hzz
          have HO3 : Hid ((out).length + 1 ≤ maxLen ∧ ((out).length + 1) * 64 ≤ 140737488355328) := Lib.hid (by
            have h1 := HP.out.2.2.2.2.2
            have h2 := HP.out.2.2.2.2.1
            have h3 := HH.out.2.2.2.1
            skip
            unfold maxLen
            omega)
          go_upto_region 11 with (first
            | (refine wpList_load_mid rfl 75 _ rfl g (off + k * 35) rfl yv.toList _ (by rw [HY.out.2.2.1]; exact HY.out.2.2.2.2.2.1 _ H1.out.2.2) Tryz.underlying75 rfl (by rw [Array.length_toList, HY.out.2.2.2.1]; exact info_total) ?_)
            | (refine wpList_store_row rfl 75 _ _ rfl w1.heap.size yv rfl rfl 75 z35 (Lies.new w1 z35 75) (by rw [HY.out.2.2.2.1]; exact info_total) (by rw [HY.out.2.2.2.1]; kernel_rfl) HY.out.2.2.2.2.1 ?_))
          rw [World.setRow_alloc_new]
          have hba : Below w1.heap.size w1 (w1.alloc (.cells yv 75)) := (Below.refl _ _).alloc (Nat.le_refl _) _
          have hL9 : Lies (w1.alloc (.cells yv 75)) w1.heap.size yv 75 := Lies.new _ _ _
          have hown : OwnTo (w1.alloc (.cells yv 75)) (w.heap.size + 1) u5 (out) := ownsRow_below H1.out.1 hba
          have hfar := ownsRow_new H1.out.1
          have hL := H1.out.2.1.below hba H1.out.2.1.lt
          have hb := H1.out.2.2.trans (hba.mono H1.out.2.2.size)
          have hge : w.heap.size < w1.heap.size := H1.out.2.1.lt
          generalize w1.alloc (.cells yv 75) = wa at hba hL9 hown hL hb ⊢
          obtain ⟨b9, hb9⟩ : ∃ b, b = w1.heap.size := ⟨_, rfl⟩
          rw [← hb9] at hL9 hfar hge ⊢
          have HA := Lib.hid (And.intro hown (And.intro hL9 (And.intro hL (And.intro hb (And.intro hfar hge)))))
          clear hba hb9 hL9 hown hfar hL hb hge
          have hsl := HY.out.2.2.2.2.2.2.1 y yv HY.out.2.2.1 HY.out.2.1.1
          have hbz : Below wa.heap.size wa (wa.alloc (.cells yv 75)) := (Below.refl _ _).alloc (Nat.le_refl _) _
          have hownz : OwnTo (wa.alloc (.cells yv 75)) (w.heap.size + 1) u5 (out) := ownsRow_below HA.out.1 hbz
          have hsrc := src_one toC (a := y) (by rw [← HY.out.2.2.1]; exact Lies.new wa yv 75)
          have hbb := HA.out.2.2.2.1.trans (hbz.mono HA.out.2.2.2.1.size)
          have hLz := HA.out.2.2.1.below hbz HA.out.2.2.1.lt
          have HT := Lib.hid (And.intro hownz (And.intro hsrc (And.intro hbb hLz)))
          have hvs : yv.size = 35 := by rw [HY.out.2.2.1]; exact toC_size _ HY.out.2.1.1
          have HV := Lib.hid hvs
          clear hbz hownz hsrc hbb hLz hvs
          go_wp2_with (first
            | (refine wpList_load_mid rfl 75 _ rfl b9 0 rfl yv.toList _ (range_lies HA.out.2.1) Tryz.underlying75 rfl (by rw [Array.length_toList, HV.out]; exact info_total) ?_)
            | (at_builtin; go_must (refine wpList_append_own_at _ rfl _ _ 49 rfl (w.heap.size + 1) 75 i0 z0 35 64 Tryz.underlying49 HI.out.1 HI.out.2.1 HI.out.2.2.1 HI.out.2.2.2.1 HI.out.2.2.2.2 (by decide) _ (out).length _ rfl HT.out.1 ⟨wa.heap.size, 0, none⟩ 1 1 (cellsF toC [y]) rfl (cellsF_len toC 35 _ fun a ha => by rw [List.mem_singleton] at ha; rw [ha]; exact toC_size _ HY.out.2.1.1) HT.out.2.1 (cellsF_one toC _ fun a _ => toC_one a) HO3.out.1 HO3.out.2 (by have := HT.out.2.2.2.lt; omega) ?_; intro v' wz hown' hgrow _ hat)))
          have hownf : OwnTo wz (w.heap.size + 1) v' ((out) ++ [y]) := by
            unfold OwnTo
            rw [cellsF_app, List.length_append]
            exact hown'
          have hLf := lies_grown hgrow HT.out.2.2.2 (own_not HT.out.1 (Nat.lt_succ_self _))
          have hbf := HT.out.2.2.1.grown hgrow HT.out.2.2.1.size (fun j hj => Nat.le_trans (Nat.le_succ _) (HT.out.1.lt j hj).1)
          have e1 : (k : Int) + 1 = ((k + 1 : Nat) : Int) := by omega
          rw [e1]
          refine ⟨⟨k + 1, false, _, HP.out.2.2.2.2.1, rfl, rfl, HPN.out, hownf, hLf, hbf⟩, ?_⟩
          have h := HP.out.2.2.2.2.1
          show l.length - (k + 1) < l.length - k
          omega
    · have m1 : ¬ (k : Int) < (l.length : Int) := by omega
      have e1 : k = l.length := by omega
      rw [e1] at hP
      have hend := hP.end_
      have hol := hP.len
      cases done with
      | true =>
        have HE := Lib.hid (And.intro hend (And.intro hown hb))
        clear hend hown hb hL hP hk hlt e1 hol
        go_wp2_with fail
        go_ret
        refine ⟨⟨_, rfl, ?_⟩, HE.out.2.2⟩
        rw [← HE.out.1]
        exact own_base HE.out.2.1 (Nat.le_succ _)
      | false =>
        have HE := Lib.hid (And.intro hend trivial)
        have H1 := Lib.hid (And.intro hown (And.intro hL hb))
        clear hend hown hb hL hP hk hlt e1
        have HO3 : Hid ((out).length + 1 ≤ maxLen ∧ ((out).length + 1) * 64 ≤ 140737488355328) := Lib.hid (by
          have h3 := HH.out.2.2.2.1
          unfold maxLen
          omega)
        have hbz : Below wr.heap.size wr (wr.alloc (.cells ov 75)) := (Below.refl _ _).alloc (Nat.le_refl _) _
        have hownz : OwnTo (wr.alloc (.cells ov 75)) (w.heap.size + 1) u5 (out) := ownsRow_below H1.out.1 hbz
        have hsrc := src_one toC (a := x) (by rw [← HH.out.2.2.2.2.2.2.2]; exact Lies.new wr ov 75)
        have hbb := H1.out.2.2.trans (hbz.mono H1.out.2.2.size)
        have hLz := H1.out.2.1.below hbz H1.out.2.1.lt
        have HT := Lib.hid (And.intro hownz (And.intro hsrc (And.intro hbb hLz)))
        clear hbz hownz hsrc hbb hLz
        go_upto_region 17 with (first
          | (refine wpList_load_mid rfl 75 _ rfl w.heap.size 0 rfl ov.toList _ (range_lies H1.out.2.1) Tryz.underlying75 rfl (by rw [Array.length_toList, HH.out.2.2.2.2.1]; exact info_total) ?_)
          | (at_builtin; go_must (refine wpList_append_own_at _ rfl _ _ 49 rfl (w.heap.size + 1) 75 i0 z0 35 64 Tryz.underlying49 HI.out.1 HI.out.2.1 HI.out.2.2.1 HI.out.2.2.2.1 HI.out.2.2.2.2 (by decide) _ (out).length _ rfl HT.out.1 ⟨wr.heap.size, 0, none⟩ 1 1 (cellsF toC [x]) rfl (cellsF_len toC 35 _ fun a ha => by rw [List.mem_singleton] at ha; rw [ha]; exact toC_size _ HH.out.2.2.1.1) HT.out.2.1 (cellsF_one toC _ fun a _ => toC_one a) HO3.out.1 HO3.out.2 (by have := HT.out.2.2.2.lt; omega) ?_; intro vx wx hown' hgrow _ hat)))
        have hownf : OwnTo wx (w.heap.size + 1) vx ((out) ++ [x]) := by
          unfold OwnTo
          rw [cellsF_app, List.length_append]
          exact hown'
        have hLf := lies_grown hgrow HT.out.2.2.2 (own_not HT.out.1 (Nat.lt_succ_self _))
        have hbf := HT.out.2.2.1.grown hgrow HT.out.2.2.1.size (fun j hj => Nat.le_trans (Nat.le_succ _) (HT.out.1.lt j hj).1)
        have HX := Lib.hid (And.intro hownf (And.intro hLf hbf))
        clear hownf hLf hbf hown' hgrow hat HT HO3
        go_wp2_with fail
        go_ret
        refine ⟨⟨_, rfl, ?_⟩, HX.out.2.2⟩
        rw [← HE.out.1]
        exact own_base HX.out.1 (Nat.le_succ _)
end Go.Proofs.YtjngghihciimjaaGreat
