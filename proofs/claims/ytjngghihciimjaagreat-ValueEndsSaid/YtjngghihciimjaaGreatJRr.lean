/-
  What was lent and is as it was: assets (32).
-/
import Derived.Test.YtjngghihciimjaaGreatJRq
import Derived.Test.YtjngghihciimjaaGreatJVmc
namespace Go.Proofs.YtjngghihciimjaaGreat
set_option maxRecDepth 100000
open Go.RowKit Go.Sort Go.Maps
theorem marksA_get (i : Nat) (h : i < 12) : (marksA 12)[i]? = some (markA (UInt8.ofNat i)) := by
 unfold marksA
 rw [List.getElem?_map, List.getElem?_range h]
 rfl
structure LentIn (w : World) (l : List As) (g c : Nat) : Prop where
 room : l.length + 12 ≤ c
 lt : g < w.heap.size
 old : ∀ (k : Nat) (a : As), l[k]? = some a → w.rangeAt g (k * 34) (asC a).toList
 new : ∀ i, i < 12 → w.rangeAt g ((l.length + i) * 34) (asC (markA (UInt8.ofNat i))).toList
theorem LentA.inn {w : World} {B : Nat} {l : List As} {v : Value} (h : LentA w B l v) (ho : ∀ a, a ∈ l → AsOk a) : ∃ g c, v = .slice (some ⟨g, 0, none⟩) l.length c ∧ LentIn w l g c := by
 obtain ⟨g, c, h1, h2, h3⟩ := h
 have hlen : (l ++ marksA 12).length = l.length + 12 := by rw [List.length_append, marksA_len]
 refine ⟨g, c, h1, ?_⟩
 rcases own_at asC 34 (fun a ha => by
  rcases List.mem_append.1 ha with ha | ha
  ·
   exact asC_size a (ho a ha).1
  ·
   exact asC_size a (marksA_ok 12 a ha).1) h3 with ⟨h4, _⟩ | ⟨g', cap, h4, _, h5, _, h6, _⟩
 ·
  cases h4
 ·
  rw [hlen] at h4
  simp only [Value.slice.injEq, Option.some.injEq, Addr.mk.injEq, true_and, and_true] at h4
  obtain ⟨rfl, rfl⟩ := h4
  refine ⟨h2, h5, fun k a hk => ?_, fun i hi => ?_⟩
  ·
   have := h6 k a (by rw [List.getElem?_append_left (List.getElem?_eq_some_iff.1 hk).1]; exact hk)
   rwa [Nat.zero_add] at this
  ·
   have := h6 (l.length + i) (markA (UInt8.ofNat i)) (by rw [List.getElem?_append_right (by omega), Nat.add_sub_cancel_left]; exact marksA_get i hi)
   rwa [Nat.zero_add] at this
theorem LentIn.below {w U : World} {l : List As} {g c : Nat} (h : LentIn w l g c) (hb : Below w.heap.size w U) : LentIn U l g c :=
 ⟨h.room, Nat.lt_of_lt_of_le h.lt hb.size, fun k a hk j v hv => (hb.cell (p := ⟨g, k * 34 + j, none⟩) h.lt).trans (h.old k a hk j v hv), fun i hi j v hv => (hb.cell (p := ⟨g, (l.length + i) * 34 + j, none⟩) h.lt).trans (h.new i hi j v hv)⟩
attribute [-go_sem] Instr.build
attribute [-go_sem] Instr.buildSlice
set_option maxHeartbeats 8000000 in
theorem keptA_any (w : World) (l : List As) (g cg : Nat) (pa : Option Addr) (c : Nat) (hin : LentIn w l g cg) (h : Row w pa l) (hl : l.length ≤ 100000) :
  Calls Tryz.prog 32 #[.slice (some ⟨g, 0, none⟩) l.length cg, .slice pa l.length c] w fun e w' => e = .returned (.bool true) ∧ Below w.heap.size w w' := by
 obtain ⟨n, hn⟩ : ∃ n, n = l.length := ⟨_, rfl⟩
 have q5 : (n : Int) + 12 ≤ (cg : Int) := by have := hin.room; omega
 have q1 : (n : Int) ≤ 100000 := by omega
 have q2 : (0 : Int) ≤ (n : Int) := by omega
 have H := Lib.hid (And.intro hin (And.intro h hn))
 rw [← hn]
 clear hin h hn hl
 go_enter Tryz.func32, Tryz.ntmps32
 go_wp2_with fail
 go_loopw [6] (fun i W => ∃ k : Nat, k ≤ n + 12 ∧ i = .int .i64 k ∧ Below w.heap.size w W) (fun i _ => n + 12 - (intOf i).toNat)
 case atStart => exact ⟨0, Nat.zero_le _, rfl, Below.refl _ _⟩
 case round =>
  obtain ⟨k, hk, rfl, hb⟩ := hrel
  by_cases hlt : k < n + 12
  ·
   have m1 : (k : Int) < (n : Int) + 12 := by omega
   have m0 : (0 : Int) ≤ (k : Int) := by omega
   by_cases hkn : k < n
   ·
    have r1 : (k : Int) < (n : Int) := by omega
    have r3 : k < n := hkn
    obtain ⟨g2, off, rfl, hg, hh⟩ := H.out.2.1.2.2 (by have := H.out.2.2; omega)
    obtain ⟨y, hy⟩ : ∃ y, y = l[k]'(by have := H.out.2.2; omega) := ⟨_, rfl⟩
    have hky : l[k]? = some y := by rw [hy, List.getElem?_eq_getElem]
    have oky := H.out.2.1.2.1 y (List.mem_of_getElem? hky)
    obtain ⟨va, hva⟩ : ∃ v, v = asC y := ⟨_, rfl⟩
    have heq : ∀ W, (Op.equalIn 10000 38 (.agg va) (.agg va)).run Tryz.prog W = .ok true W := fun W => by
     have := eq_as W y y oky oky
     rw [decide_eq_true rfl] at this
     rw [hva]; exact this
    have hsz : (Tryz.prog.info? 38).map (·.size) = some va.size := by rw [hva, asC_size y oky.1]; exact info_asset
    have hS0 : ∀ U, Below w.heap.size w U → U.rangeAt g (k * 34) va.toList ∧ U.rangeAt g2 (off + k * 34) va.toList := fun U hU => by
     rw [hva]
     exact ⟨(H.out.1.below hU).old k y hky, (hh.below hU hg) k y hky⟩
    have HR := Lib.hid (And.intro hb (And.intro hlt (And.intro hS0 (And.intro hsz heq))))
    clear hb hlt hS0 hsz heq hky hy oky hva hh hg hk hkn
    go_upto_region 7 with fail
    refine wp_region_noPanic (wp_region_held (S := fun U => U.rangeAt g (k * 34) va.toList ∧ U.rangeAt g2 (off + k * 34) va.toList) (by kernel_rfl) ?_)
    change wpAnyH _ _ _ _ _ 35 _ _ (World.drew wr)
    have hbd : Below w.heap.size w wr.drew := HR.out.1.drew
    generalize World.drew wr = wd at hbd ⊢
    have hcur := HR.out.2.2.1 wd hbd
    have heq := HR.out.2.2.2.2
    refine tk 0 (.int .i64 k) 23 rfl rfl hcur ?_
    refine tk 1 (.slice (some ⟨g2, off, none⟩) n c) 24 rfl rfl hcur ?_
    refine tk 2 (.int .i64 n) 25 rfl rfl hcur ?_
    refine tk 3 (.bool true) 26 rfl rfl hcur ?_ (by intro w' hS'; unfold execOp; simp [go_sem, r1])
    refine tk 4 (.bool true) 27 rfl rfl hcur ?_
    refine tk 5 (.slice (some ⟨g, 0, none⟩) (n + 12) cg) 28 rfl rfl hcur ?_
    refine tk 6 (.int .i64 k) 29 rfl rfl hcur ?_
    refine tk 7 (.pointer (some ⟨g, k * 34, none⟩)) 30 rfl rfl hcur ?_ (by intro w' hS'; unfold execOp; simp [go_sem, m0, m1])
    refine tk 8 (.agg va) 31 rfl rfl hcur ?_ (by intro w' hS'; exact exec_loadM 38 _ rfl _ _ rfl va hS'.1 Tryz.underlying38 rfl HR.out.2.2.2.1)
    refine tk 9 (.slice (some ⟨g2, off, none⟩) n c) 32 rfl rfl hcur ?_
    refine tk 10 (.int .i64 k) 33 rfl rfl hcur ?_
    refine tk 11 (.pointer (some ⟨g2, off + k * 34, none⟩)) 34 rfl rfl hcur ?_ (by intro w' hS'; unfold execOp; simp [go_sem, m0, r1])
    refine tk 12 (.agg va) 35 rfl rfl hcur ?_ (by intro w' hS'; exact exec_loadM 38 _ rfl _ _ rfl va hS'.2 Tryz.underlying38 rfl HR.out.2.2.2.1)
    refine tk 13 (.bool true) 36 rfl rfl hcur ?_ (by intro w' hS'; unfold execOp; simp [go_sem, heq])
    refine tk 14 (.bool false) 37 rfl rfl hcur ?_
    refine tk 15 (.bool false) 38 rfl rfl hcur ?_
    refine tk 16 (.bool false) 39 rfl rfl hcur ?_
    refine tk 17 (.int .i64 k) 40 rfl rfl hcur ?_
    refine tk 18 (.slice (some ⟨g2, off, none⟩) n c) 41 rfl rfl hcur ?_
    refine tk 19 (.int .i64 n) 42 rfl rfl hcur ?_
    refine tk 20 (.bool false) 43 rfl rfl hcur ?_ (by intro w' hS'; unfold execOp; simp [go_sem, r3])
    refine tk 21 (.bool false) 44 rfl rfl hcur ?_
    refine held_skip (i := 22) rfl 45 rfl (by kernel_rfl) (by kernel_rfl) (by kernel_rfl) (fun _ _ _ h => h) (by rfl) hcur _ rfl ?_
    simp only [Act.put, List.setIfInBounds_toArray, List.set_cons_zero, List.set_cons_succ]
    refine held_skip (i := 23) rfl 46 rfl (by kernel_rfl) (by kernel_rfl) (by kernel_rfl) (fun _ _ _ h => h) (by rfl) hcur _ rfl ?_
    simp only [Act.put, List.setIfInBounds_toArray, List.set_cons_zero, List.set_cons_succ]
    refine held_skip (i := 24) rfl 47 rfl (by kernel_rfl) (by kernel_rfl) (by kernel_rfl) (fun _ _ _ h => h) (by rfl) hcur _ rfl ?_
    simp only [Act.put, List.setIfInBounds_toArray, List.set_cons_zero, List.set_cons_succ]
    refine held_skip (i := 25) rfl 48 rfl (by kernel_rfl) (by kernel_rfl) (by kernel_rfl) (fun _ _ _ h => h) (by rfl) hcur _ rfl ?_
    simp only [Act.put, List.setIfInBounds_toArray, List.set_cons_zero, List.set_cons_succ]
    refine held_skip (i := 26) rfl 49 rfl (by kernel_rfl) (by kernel_rfl) (by kernel_rfl) (fun _ _ _ h => h) (by rfl) hcur _ rfl ?_
    simp only [Act.put, List.setIfInBounds_toArray, List.set_cons_zero, List.set_cons_succ]
    refine held_skip (i := 27) rfl 50 rfl (by kernel_rfl) (by kernel_rfl) (by kernel_rfl) (fun _ _ _ h => h) (by rfl) hcur _ rfl ?_
    simp only [Act.put, List.setIfInBounds_toArray, List.set_cons_zero, List.set_cons_succ]
    refine held_skip (i := 28) rfl 51 rfl (by kernel_rfl) (by kernel_rfl) (by kernel_rfl) (fun _ _ _ h => h) (by rfl) hcur _ rfl ?_
    simp only [Act.put, List.setIfInBounds_toArray, List.set_cons_zero, List.set_cons_succ]
    refine held_skip (i := 29) rfl 52 rfl (by kernel_rfl) (by kernel_rfl) (by kernel_rfl) (fun _ _ _ h => h) (by rfl) hcur _ rfl ?_
    simp only [Act.put, List.setIfInBounds_toArray, List.set_cons_zero, List.set_cons_succ]
    refine held_skip (i := 30) rfl 53 rfl (by kernel_rfl) (by kernel_rfl) (by kernel_rfl) (fun _ _ _ h => h) (by rfl) hcur _ rfl ?_
    simp only [Act.put, List.setIfInBounds_toArray, List.set_cons_zero, List.set_cons_succ]
    refine held_skip (i := 31) rfl 54 rfl (by kernel_rfl) (by kernel_rfl) (by kernel_rfl) (fun _ _ _ h => h) (by rfl) hcur _ rfl ?_
    simp only [Act.put, List.setIfInBounds_toArray, List.set_cons_zero, List.set_cons_succ]
    refine held_skip (i := 32) rfl 55 rfl (by kernel_rfl) (by kernel_rfl) (by kernel_rfl) (fun _ _ _ h => h) (by rfl) hcur _ rfl ?_
    simp only [Act.put, List.setIfInBounds_toArray, List.set_cons_zero, List.set_cons_succ]
    refine tk 33 (.bool false) 56 rfl rfl hcur ?_
    refine tk 34 (.bool false) 57 rfl rfl hcur ?_
    refine wpAnyH_done (by kernel_rfl) ?_ _
    unfold NoPanic
    dsimp only
    have HZ := Lib.hid hbd
    clear hcur hbd heq
    go_wp2_with fail
    have e1 : (k : Int) + 1 = ((k + 1 : Nat) : Int) := by omega
    rw [e1]
    refine ⟨⟨k + 1, HR.out.2.1, rfl, HZ.out⟩, ?_⟩
    have h := HR.out.2.1
    show n + 12 - (k + 1) < n + 12 - k
    omega
   ·
    have r1 : ¬ (k : Int) < (n : Int) := by omega
    have r2 : (n : Int) ≤ (k : Int) := by omega
    have r3 : n ≤ k := by omega
    obtain ⟨j, hj⟩ : ∃ j, j = k - n := ⟨_, rfl⟩
    have hkj : k = n + j := by omega
    have hwj : IntKind.i64.wrap ((k : Int) - (n : Int)) = (j : Int) := by rw [IntKind.wrap_i64]; omega
    obtain ⟨b, hbb⟩ : ∃ b, b = UInt8.ofNat j := ⟨_, rfl⟩
    have hbn : ((b.toNat : Nat) : Int) = (j : Int) := by
     rw [hbb]
     simp
     omega
    have hm : ∀ U, Calls Tryz.prog 65 #[.int .i64 1, .int .i64 j] U fun e w' => e = .returned (.agg (asC (markA b))) ∧ Below U.heap.size U w' := fun U => by
     have := markAsset_any U b
     rwa [hbn] at this
    obtain ⟨va, hva⟩ : ∃ v, v = asC (markA b) := ⟨_, rfl⟩
    rw [← hva] at hm
    have heq : ∀ W, (Op.equalIn 10000 38 (.agg va) (.agg va)).run Tryz.prog W = .ok true W := fun W => by
     have := eq_as W (markA b) (markA b) (markA_ok b) (markA_ok b)
     rw [decide_eq_true rfl] at this
     rw [hva]; exact this
    have hsz : (Tryz.prog.info? 38).map (·.size) = some va.size := by rw [hva, asC_size _ (markA_ok b).1]; exact info_asset
    have hS0 : ∀ U, Below w.heap.size w U → U.rangeAt g (k * 34) va.toList := fun U hU => by
     rw [hva, hbb, hkj, H.out.2.2]
     exact (H.out.1.below hU).new j (by omega)
    have HR := Lib.hid (And.intro hb (And.intro hlt (And.intro hS0 (And.intro hsz (And.intro heq hm)))))
    clear hb hlt hS0 hsz heq hm hbn hbb hva hkj hj hk hkn
    go_upto_region 7 with fail
    refine wp_region_noPanic (wp_region_held (S := fun U => U.rangeAt g (k * 34) va.toList) (by kernel_rfl) ?_)
    change wpAnyH _ _ _ _ _ 35 _ _ (World.drew wr)
    have hbd : Below w.heap.size w wr.drew := HR.out.1.drew
    generalize World.drew wr = wd at hbd ⊢
    have hcur := HR.out.2.2.1 wd hbd
    have heq := HR.out.2.2.2.2.1
    refine tk 0 (.int .i64 k) 23 rfl rfl hcur ?_
    refine tk 1 (.slice pa n c) 24 rfl rfl hcur ?_
    refine tk 2 (.int .i64 n) 25 rfl rfl hcur ?_
    refine tk 3 (.bool false) 26 rfl rfl hcur ?_ (by intro w' hS'; unfold execOp; simp [go_sem, r3])
    refine tk 4 (.bool false) 27 rfl rfl hcur ?_
    refine held_skip (i := 5) rfl 28 rfl (by kernel_rfl) (by kernel_rfl) (by kernel_rfl) (fun _ _ _ h => h) (by rfl) hcur _ rfl ?_
    simp only [Act.put, List.setIfInBounds_toArray, List.set_cons_zero, List.set_cons_succ]
    refine held_skip (i := 6) rfl 29 rfl (by kernel_rfl) (by kernel_rfl) (by kernel_rfl) (fun _ _ _ h => h) (by rfl) hcur _ rfl ?_
    simp only [Act.put, List.setIfInBounds_toArray, List.set_cons_zero, List.set_cons_succ]
    refine held_skip (i := 7) rfl 30 rfl (by kernel_rfl) (by kernel_rfl) (by kernel_rfl) (fun _ _ _ h => h) (by rfl) hcur _ rfl ?_
    simp only [Act.put, List.setIfInBounds_toArray, List.set_cons_zero, List.set_cons_succ]
    refine held_skip (i := 8) rfl 31 rfl (by kernel_rfl) (by kernel_rfl) (by kernel_rfl) (fun _ _ _ h => h) (by rfl) hcur _ rfl ?_
    simp only [Act.put, List.setIfInBounds_toArray, List.set_cons_zero, List.set_cons_succ]
    refine held_skip (i := 9) rfl 32 rfl (by kernel_rfl) (by kernel_rfl) (by kernel_rfl) (fun _ _ _ h => h) (by rfl) hcur _ rfl ?_
    simp only [Act.put, List.setIfInBounds_toArray, List.set_cons_zero, List.set_cons_succ]
    refine held_skip (i := 10) rfl 33 rfl (by kernel_rfl) (by kernel_rfl) (by kernel_rfl) (fun _ _ _ h => h) (by rfl) hcur _ rfl ?_
    simp only [Act.put, List.setIfInBounds_toArray, List.set_cons_zero, List.set_cons_succ]
    refine held_skip (i := 11) rfl 34 rfl (by kernel_rfl) (by kernel_rfl) (by kernel_rfl) (fun _ _ _ h => h) (by rfl) hcur _ rfl ?_
    simp only [Act.put, List.setIfInBounds_toArray, List.set_cons_zero, List.set_cons_succ]
    refine held_skip (i := 12) rfl 35 rfl (by kernel_rfl) (by kernel_rfl) (by kernel_rfl) (fun _ _ _ h => h) (by rfl) hcur _ rfl ?_
    simp only [Act.put, List.setIfInBounds_toArray, List.set_cons_zero, List.set_cons_succ]
    refine held_skip (i := 13) rfl 36 rfl (by kernel_rfl) (by kernel_rfl) (by kernel_rfl) (fun _ _ _ h => h) (by rfl) hcur _ rfl ?_
    simp only [Act.put, List.setIfInBounds_toArray, List.set_cons_zero, List.set_cons_succ]
    refine held_skip (i := 14) rfl 37 rfl (by kernel_rfl) (by kernel_rfl) (by kernel_rfl) (fun _ _ _ h => h) (by rfl) hcur _ rfl ?_
    simp only [Act.put, List.setIfInBounds_toArray, List.set_cons_zero, List.set_cons_succ]
    refine tk 15 (.bool false) 38 rfl rfl hcur ?_
    refine tk 16 (.bool false) 39 rfl rfl hcur ?_
    refine tk 17 (.int .i64 k) 40 rfl rfl hcur ?_
    refine tk 18 (.slice pa n c) 41 rfl rfl hcur ?_
    refine tk 19 (.int .i64 n) 42 rfl rfl hcur ?_
    refine tk 20 (.bool true) 43 rfl rfl hcur ?_ (by intro w' hS'; unfold execOp; simp [go_sem, r3])
    refine tk 21 (.bool true) 44 rfl rfl hcur ?_
    refine tk 22 (.slice (some ⟨g, 0, none⟩) (n + 12) cg) 45 rfl rfl hcur ?_
    refine tk 23 (.int .i64 k) 46 rfl rfl hcur ?_
    refine tk 24 (.pointer (some ⟨g, k * 34, none⟩)) 47 rfl rfl hcur ?_ (by intro w' hS'; unfold execOp; simp [go_sem, m0, m1])
    refine tk 25 (.agg va) 48 rfl rfl hcur ?_ (by intro w' hS'; exact exec_loadM 38 _ rfl _ _ rfl va hS' Tryz.underlying38 rfl HR.out.2.2.2.1)
    refine tk 26 (.int .i64 k) 49 rfl rfl hcur ?_
    refine tk 27 (.slice pa n c) 50 rfl rfl hcur ?_
    refine tk 28 (.int .i64 n) 51 rfl rfl hcur ?_
    refine tk 29 (.int .i64 j) 52 rfl rfl hcur ?_ (by intro w' hS'; unfold execOp; simp [go_sem, hwj])
    refine held_one (i := 30) (by kernel_rfl) _ rfl (wpOp_callG rfl (by rfl) 53 rfl 65 #[.int .i64 1, .int .i64 j] (by unfold execOp; simp [go_sem]) _ (ret_of (HR.out.2.2.2.2.2 _)) ?_)
    rintro v1 w1 ⟨rfl, hb1⟩
    have hb2 := hbd.trans (hb1.mono hbd.size)
    have hcur := HR.out.2.2.1 w1 hb2
    refine ⟨hcur, ?_⟩
    simp only [Act.put, List.setIfInBounds_toArray, List.set_cons_zero, List.set_cons_succ]
    refine tk 31 (.bool true) 54 rfl rfl hcur ?_ (by intro w' hS'; unfold execOp; simp [go_sem, heq])
    refine tk 32 (.bool false) 55 rfl rfl hcur ?_
    refine tk 33 (.bool false) 56 rfl rfl hcur ?_
    refine tk 34 (.bool false) 57 rfl rfl hcur ?_
    refine wpAnyH_done (by kernel_rfl) ?_ _
    unfold NoPanic
    dsimp only
    have HZ := Lib.hid hb2
    clear hcur hbd hb1 hb2 heq
    go_wp2_with fail
    have e1 : (k : Int) + 1 = ((k + 1 : Nat) : Int) := by omega
    rw [e1]
    refine ⟨⟨k + 1, HR.out.2.1, rfl, HZ.out⟩, ?_⟩
    have h := HR.out.2.1
    show n + 12 - (k + 1) < n + 12 - k
    omega
  ·
   have m1 : ¬ (k : Int) < (n : Int) + 12 := by omega
   have HE := Lib.hid hb
   clear hb hk hlt
   go_wp2_with fail
   go_ret
   exact ⟨rfl, HE.out⟩
end Go.Proofs.YtjngghihciimjaaGreat
