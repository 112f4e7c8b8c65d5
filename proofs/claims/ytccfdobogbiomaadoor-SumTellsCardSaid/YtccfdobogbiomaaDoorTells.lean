/-
  KeptRows; and SumTells: any rows of bytes.
-/
import Derived.Test.YtccfdobogbiomaaDoorRowsLent
import Derived.Test.YtccfdobogbiomaaDoorGreat
import Derived.Test.YtccfdobogbiomaaDoorAwake
import Derived.Outline
namespace Go.Proofs.YtccfdobogbiomaaDoor
open Go.RowKit Sha

theorem LentI.same {w : World} {ps : List Part} {k : Nat} {v : Value} {wr w' : World} (h : LentI w ps k v wr) (hb : Below wr.heap.size wr w') : LentI w ps k v w' := by
  obtain ⟨qs, h1, h2, h3⟩ := h
  refine ⟨qs, h1, ⟨⟨h2.1.1, ?_⟩, h2.2.trans (hb.mono h2.2.size)⟩, fun j hj => ?_⟩
  · rcases h2.1.2 with h | ⟨g', cap', cur, e, hbase, hb', h2⟩
    · exact .inl h
    · exact .inr ⟨g', cap', cur, e, hbase, (hb.block g' (Array.getElem?_eq_some_iff.1 hb').1).trans hb', h2⟩
  · obtain ⟨n, c, e, ho, hn⟩ := h3 j hj
    exact ⟨n, c, e, ho.below hb ho.room.2.2, hn⟩

set_option maxRecDepth 100000 in
set_option maxHeartbeats 2000000 in
theorem keptrows_any (ps : List Part) (w0 w : World) (u : Value) (v : Option Addr) (cap : Nat) (hm : ps.length ≤ 3000) (hgood : ∀ p, p ∈ ps → Good w p ∧ p.xs.length ≤ 3000)
    (hv : 0 < ps.length → ∃ g off, v = some ⟨g, off, none⟩ ∧ g < w.heap.size ∧ PSrc w g off ps) (hl : LentI w0 ps ps.length u w) :
    Calls Tryd.prog 12 #[u, .slice v ps.length cap] w fun e w' => e = .returned (.bool true) ∧ ∃ q, w.drewN q = w' := by
  obtain ⟨qs, hq1, hq2, hq3⟩ := hl
  obtain ⟨a, c, rfl, hc1, hc2, hqs⟩ := hq2.slice
  rw [hq1] at hc2 hqs ⊢
  have HG := Lib.hid hgood
  have HV := Lib.hid hv
  have HQ := Lib.hid hqs
  have H3 := Lib.hid hq3
  have HQ1 := Lib.hid hq1
  have m4 : ((ps.length : Int) != (ps.length : Int)) = false := by simp
  clear hgood hv hqs hq3 hq2 hq1
  go_enter Tryd.func12, Tryd.ntmps12
  go_wp2_with fail
  go_loopw [5] (fun i wr => ∃ k q : Nat, k ≤ ps.length ∧ i = .int .i64 k ∧ wr = w.drewN q) (fun i _ => ps.length - (intOf i).toNat)
  case atStart => exact ⟨0, 0, by omega, rfl, rfl⟩
  case round =>
    obtain ⟨k, q, hk, rfl, rfl⟩ := hrel
    by_cases hlt : k < ps.length
    · obtain ⟨g, off, rfl, hgw, hps⟩ := HV.out (by omega)
      obtain ⟨gq, rfl, hgq, _, hqp⟩ := HQ.out (by omega)
      obtain ⟨n, cn, e, ho, hn⟩ := H3.out k hlt
      obtain ⟨p, hp⟩ : ∃ p, p = ps.getD k ⟨none, [], 0⟩ := ⟨_, rfl⟩
      rw [← hp] at e ho
      have c1 : (w.drewN q).cell? ⟨g, off + k, none⟩ = some (.slice p.at_ p.xs.length p.cap) := by rw [hp]; exact hps k hlt
      have c2 : (w.drewN q).cell? ⟨gq, k, none⟩ = some (.slice (some ⟨n, 0, none⟩) p.xs.length cn) := by
        have := hqp k (by have := HQ1.out; omega)
        rw [Nat.zero_add, e] at this
        exact this
      have hmem : p ∈ ps := by rw [hp]; simp [hlt]
      obtain ⟨hgp, hxl⟩ := HG.out p hmem
      have hkept : ∀ m, Calls Tryd.prog 27 #[.slice (some ⟨n, 0, none⟩) p.xs.length cn, .slice p.at_ p.xs.length p.cap] ((w.drewN q).drewN m) fun e w' => e = .returned (.bool true) ∧ ∃ r, w' = ((w.drewN q).drewN m).drewN r := fun m =>
        (kept_any p.at_ p.xs p.cap n cn ((w.drewN q).drewN m) hgp hxl ho).mono fun e w' ⟨h1, r, h2⟩ => ⟨h1, r, h2.symm⟩
      obtain ⟨w2, hw2⟩ : ∃ w2, w2 = w.drewN q := ⟨_, rfl⟩
      rw [← hw2] at c1 c2 hkept ⊢
      have HW2 := Lib.hid hw2
      have HK := Lib.hid hkept
      have m1 : (k : Int) < (ps.length : Int) := by omega
      have f0 : (0 : Int) ≤ (k : Int) := by omega
      clear hw2 hkept hp hps hqp hgw hgq ho hn e hmem hgp hxl
      go_wp2_with fail
      go_quiet ((go_at_call 27; with_reducible exact Calls.quiet_of (HK.out _)))
      go_wp2_with fail
      refine ⟨⟨k + 1, q + nq, by omega, by go_num, by rw [HW2.out, World.drewN_drewN]⟩, ?_⟩
      simp [intOf]; omega
    · have hd : decide (k < ps.length) = false := by simp; omega
      go_wp2_with fail
      go_ret
      exact ⟨rfl, q, rfl⟩

theorem joined_same (ps qs : List Part) (hl : qs.length = ps.length) (h : ∀ j, j < ps.length → (qs.getD j ⟨none, [], 0⟩).xs = (ps.getD j ⟨none, [], 0⟩).xs) : joined qs = joined ps := by
  have e : qs.map (·.xs) = ps.map (·.xs) := by
    apply List.ext_getElem
    · simp [hl]
    · intro j h1 h2
      rw [List.length_map] at h1 h2
      have := h j h2
      simp only [List.getD_eq_getElem?_getD, List.getElem?_eq_getElem h1, List.getElem?_eq_getElem h2, Option.getD_some] at this
      simpa using this
  unfold joined
  rw [List.flatMap_def, List.flatMap_def, e]
theorem part_le (ps : List Part) (p : Part) (h : p ∈ ps) : p.xs.length ≤ (joined ps).length := by
  unfold joined
  rw [List.flatMap_def]
  obtain ⟨a, b, rfl⟩ := List.append_of_mem h
  simp
  omega

set_option maxRecDepth 100000 in
set_option maxHeartbeats 2000000 in
theorem tells_any (ps : List Part) (w : World) (v : Option Addr) (cap : Nat) (hm : ps.length ≤ maxLen) (hgood : ∀ p, p ∈ ps → Good w p ∧ (p.at_ = none → p.cap = 0) ∧ p.xs.length ≤ 140737488355328)
    (hv : 0 < ps.length → ∃ g off, v = some ⟨g, off, none⟩ ∧ g < w.heap.size ∧ PSrc w g off ps) (hs : Starts w) (hc : Cubes w) :
    Calls Tryd.prog 3 #[.slice v ps.length cap] w fun e w' => e = .returned (.bool true) ∧ Below w.heap.size w w' := by
  have hgr := great_any ps w v cap hm (fun p hp => (hgood p hp).2.2) (fun hp => by obtain ⟨g, off, e, _, h⟩ := hv hp; exact ⟨g, off, e, h⟩)
  have HS := Lib.hid hs
  have HC := Lib.hid hc
  by_cases hover : 3000 < total ps ps.length
  · rw [decide_eq_true hover] at hgr
    have HGR := Lib.hid hgr
    clear hgr hover hgood hv hm hs hc
    go_enter Tryd.func3, Tryd.ntmps3
    go_wp2_with fail
    refine HGR.out.mono ?_
    rintro e w1 ⟨rfl, rfl⟩
    go_wp2_with fail
    refine (awake_any w HS.out HC.out).mono ?_
    rintro e w1 ⟨rfl, hb1⟩
    go_wp2_with fail
    go_ret
    exact ⟨rfl, hb1⟩
  · rw [decide_eq_false hover] at hgr
    have ht : ps.length + (joined ps).length ≤ 3000 := by
      have : total ps ps.length = ps.length + (joined ps).length := by unfold total; rw [List.take_length]
      omega
    have hgood2 : ∀ p, p ∈ ps → Good w p ∧ (p.at_ = none → p.cap = 0) ∧ p.xs.length ≤ 3000 := fun p hp => ⟨(hgood p hp).1, (hgood p hp).2.1, by have := part_le ps p hp; omega⟩
    have hlent := lentrows_any ps w v cap (by omega) hgood2 hv
    have h1n : 1 < w.heap.size := Lies.lt hc
    have HGR := Lib.hid hgr
    have HG := Lib.hid hgood2
    have HV := Lib.hid hv
    have HLENT := Lib.hid hlent
    clear hgr hover hgood hgood2 hv hlent hs hc
    go_enter Tryd.func3, Tryd.ntmps3
    go_wp2_with fail
    refine HGR.out.mono ?_
    rintro e w1 ⟨rfl, rfl⟩
    go_wp2_with fail
    refine HLENT.out.mono ?_
    rintro e w2 ⟨u, rfl, hl⟩
    obtain ⟨qs, hq1, hq2, hq3⟩ := hl
    obtain ⟨a, c, rfl, hc1, hc2, hqs⟩ := hq2.slice
    rw [hq1] at hc2 hqs ⊢
    have hb2 : Below w.heap.size w w2 := hq2.2
    have hj : joined qs = joined ps := joined_same ps qs hq1 (fun j hj => by obtain ⟨n, c, e, _, _⟩ := hq3 j hj; rw [e])
    have hgq : ∀ p, p ∈ qs → Good w2 p := by
      intro p hp
      obtain ⟨j, hjl, rfl⟩ := List.getElem_of_mem hp
      obtain ⟨n, cn, e, ho, _⟩ := hq3 j (by omega)
      have e2 : qs[j] = ⟨some ⟨n, 0, none⟩, (ps.getD j ⟨none, [], 0⟩).xs, cn⟩ := by
        rw [← e, List.getD_eq_getElem?_getD, List.getElem?_eq_getElem hjl]; rfl
      rw [e2]
      have hr := ho.room
      rw [List.length_append, marks_length] at hr
      refine ⟨?_, hr.2.1, fun _ => ⟨n, 0, rfl, hr.2.2, fun i hi => ?_⟩⟩
      · show (ps.getD j ⟨none, [], 0⟩).xs.length ≤ cn
        omega
      · have hi' : i < (ps.getD j ⟨none, [], 0⟩).xs.length := hi
        rw [Nat.zero_add, ho.cell i (by rw [List.length_append]; omega), List.getD_eq_getElem?_getD, List.getElem?_append_left hi', ← List.getD_eq_getElem?_getD]
    have hof := of_any qs w2 a c (by rw [hq1]; exact hm) hgq (fun hp => by
      obtain ⟨g, e, hg, _, hps⟩ := hqs (by omega)
      exact ⟨g, 0, e, hg, hps⟩) (by rw [hj]; omega) (Lies.below HS.out hb2 (by omega)) (Lies.below HC.out hb2 h1n)
    rw [hq1, hj] at hof
    have hli : LentI w ps ps.length (.slice a ps.length c) w2 := ⟨qs, hq1, by rw [hq1] at hq2; exact hq2, hq3⟩
    have HOF := Lib.hid hof
    have HLI := Lib.hid hli
    have HB2 := Lib.hid hb2
    have hsl : (sha (joined ps)).length = 32 := rfl
    have heq := equal_same (sha (joined ps)) hsl
    have hgu : Tryd.prog.eqGuardType Tryd.prog.depth 27 = false := by kernel_rfl
    clear hof hli hb2 hq1 hq2 hq3 hqs hgq hj hc1 hc2 hsl
    go_wp2_with fail
    refine HOF.out.mono ?_
    rintro e w3 ⟨rfl, hb3⟩
    have HB3 := Lib.hid (HB2.out.trans (hb3.mono HB2.out.size))
    have HL3 := Lib.hid (HLI.out.same hb3)
    clear hb3 HOF HLI
    go_wp2_with fail
    refine (refof_any ps w3 v cap hm (fun p hp => ((HG.out p hp).1).below HB3.out) (fun p hp => (HG.out p hp).2.1) (fun hp => by
      obtain ⟨g, off, e, hg, hps⟩ := HV.out hp
      exact ⟨g, off, e, Nat.lt_of_lt_of_le hg HB3.out.size, fun j hj => (HB3.out.cell (p := ⟨g, off + j, none⟩) hg).trans (hps j hj)⟩) (by omega)).mono ?_
    rintro e w4 ⟨rfl, hb4⟩
    have HB4 := Lib.hid (HB3.out.trans (hb4.mono HB3.out.size))
    have HL4 := Lib.hid (HL3.out.same hb4)
    clear hb4 HL3 HB3 HB2
    generalize sha (joined ps) = X at heq ⊢
    go_wp2_with fail
    refine (keptrows_any ps w w4 _ v cap (by omega) (fun p hp => ⟨((HG.out p hp).1).below HB4.out, (HG.out p hp).2.2⟩) (fun hp => by
      obtain ⟨g, off, e, hg, hps⟩ := HV.out hp
      exact ⟨g, off, e, Nat.lt_of_lt_of_le hg HB4.out.size, fun j hj => (HB4.out.cell (p := ⟨g, off + j, none⟩) hg).trans (hps j hj)⟩) HL4.out).mono ?_
    rintro e w5 ⟨rfl, q, hw5⟩
    have HB5 : Hid (Below w.heap.size w w5) := Lib.hid (by rw [← hw5]; exact below_drewN HB4.out q)
    clear hw5 HL4 HB4
    go_wp2_with fail
    refine (awake_any w5 (Lies.below HS.out HB5.out (by omega)) (Lies.below HC.out HB5.out h1n)).mono ?_
    rintro e w6 ⟨rfl, hb6⟩
    have HB6 := Lib.hid (HB5.out.trans (hb6.mono HB5.out.size))
    clear hb6
    go_wp2_with fail
    go_ret
    exact ⟨rfl, HB6.out⟩
end Go.Proofs.YtccfdobogbiomaaDoor
